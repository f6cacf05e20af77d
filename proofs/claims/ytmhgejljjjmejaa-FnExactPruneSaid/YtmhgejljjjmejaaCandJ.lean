/-
  The program's candidatesOf.
-/
import Derived.Test.YtmhgejljjjmejaaCandI
namespace Go.Proofs.Ytmhgejljjjmejaa
open Go.RowKit

/-- The meetings of all slots by the first crossings. -/
def meetTo (X : List CrossV) (n k : Nat) : List (List (Nat × Nat × Nat)) := (List.range n).map fun s => meetS (X.take k) s
theorem meetTo_length (X : List CrossV) (n k : Nat) : (meetTo X n k).length = n := by simp [meetTo]
theorem meetTo_at (X : List CrossV) (n k : Nat) {s : Nat} (h : s < n) : (meetTo X n k).getD s [] = meetS (X.take k) s := by simp [meetTo, List.getD, h]
theorem meetTo_zero (X : List CrossV) (n : Nat) : meetTo X n 0 = List.replicate n [] := by
  refine List.ext_getElem (by simp [meetTo]) fun i h1 h2 => ?_
  simp [meetTo, meetS]
theorem meetTo_next {X : List CrossV} {n k i j p r q : Nat} (hk : k < X.length) (hx : X.getD k none_Crossing = ((i : Int), (j : Int), (p : Int), (r : Int), (q : Int))) (hij : i < j) :
    meetTo X n (k + 1) = ((meetTo X n k).set i (meetS (X.take k) i ++ [(p, j, r)])).set j (meetS (X.take k) j ++ [(r, i, p)]) := by
  have hT : X.take (k + 1) = X.take k ++ [X.getD k none_Crossing] := by rw [List.take_succ_eq_append_getElem hk]; simp [List.getD, hk]
  refine List.ext_getElem (by simp [meetTo]) fun s h1 h2 => ?_
  have hs : s < n := by simpa [meetTo] using h1
  rw [List.getElem_set, List.getElem_set]
  simp only [meetTo, List.getElem_map, List.getElem_range]
  rw [hT, meetS_next, hx, meetX_parts]
  by_cases e1 : j = s
  · subst e1
    rw [if_pos rfl, if_neg (by omega), if_pos rfl]; rfl
  · rw [if_neg e1, if_neg e1]
    by_cases e2 : i = s
    · subst e2
      rw [if_pos rfl, if_pos rfl, List.append_nil]
    · rw [if_neg e2, if_neg e2, List.append_nil, List.append_nil]
theorem meetS_len (X : List CrossV) (k s : Nat) : (meetS (X.take k) s).length ≤ 2 * X.length := by
  have h : ∀ l : List CrossV, (meetS l s).length ≤ 2 * l.length := by
    intro l
    induction l with
    | nil => simp [meetS]
    | cons a l ih =>
      have h2 : (meetX s a).length ≤ 2 := by unfold meetX; split <;> split <;> simp
      unfold meetS at ih ⊢
      rw [List.flatMap_cons, List.length_append, List.length_cons]
      omega
  have := h (X.take k)
  rw [List.length_take] at this
  omega
theorem info_meet : (Try.prog.info? 66).map (fun i => (i.zero, i.size, i.bytes)) = some (some (.agg #[.int .i64 0, .int .i64 0, .int .i64 0]), 3, 24) := by kernel_rfl
theorem info_meets : (Try.prog.info? 62).map (fun i => (i.zero, i.size, i.bytes)) = some (some (.slice none 0 0), 1, 24) := by kernel_rfl
theorem oneM (w : World) (m : Nat × Nat × Nat) (t : TypeId) : ∀ j, j < 1 * 3 → ∃ b off, some (⟨w.heap.size, 0, none⟩ : Addr) = some ⟨b, off, none⟩ ∧ (w.alloc (.cells #[.int .i64 (m.1 : Int), .int .i64 (m.2.1 : Int), .int .i64 (m.2.2 : Int)] t)).cell? ⟨b, off + j, none⟩ = (cM m)[j]? := fun j hj => by
  refine ⟨w.heap.size, 0, rfl, ?_⟩
  rw [Nat.zero_add]
  rcases j with _ | _ | _ | j
  · simp [cM]
  · simp [cM]
  · simp [cM]
  · omega
theorem info_cand : (Try.prog.info? 49).map (fun i => (i.zero, i.size, i.bytes)) = some (some (.agg #[.slice none 0 0, .slice none 0 0, .slice none 0 0]), 3, 72) := by kernel_rfl
theorem set3_block {W : World} {B : Nat} {a b c x y z : Value} {t : TypeId} (h : W.heap[B]? = some (.cells #[a, b, c] t (0, 0))) : (((W.setCell ⟨B, 0, none⟩ x).setCell ⟨B, 1, none⟩ y).setCell ⟨B, 2, none⟩ z).heap[B]? = some (.cells #[x, y, z] t (0, 0)) := by
  have h1 := Joins.block_setCell (i := 0) h x
  have h2 := Joins.block_setCell (i := 1) h1 y
  have h3 := Joins.block_setCell (i := 2) h2 z
  rw [h3]
  rfl
theorem block3_cells {W : World} {B : Nat} {a b c : Value} {t : TypeId} (h : W.heap[B]? = some (.cells #[a, b, c] t (0, 0))) : (W.cell? ⟨B, 0, none⟩ = some a ∧ W.cell? ⟨B, 1, none⟩ = some b ∧ W.cell? ⟨B, 2, none⟩ = some c) ∧ W.frozen? ⟨B, 0, none⟩ = false ∧ W.frozen? ⟨B, 1, none⟩ = false ∧ W.frozen? ⟨B, 2, none⟩ = false :=
  ⟨⟨Joins.cell_of_block h 0, Joins.cell_of_block h 1, Joins.cell_of_block h 2⟩, Joins.unfrozen_of_block h 0, Joins.unfrozen_of_block h 1, Joins.unfrozen_of_block h 2⟩
theorem set3_below {B b : Nat} {a W : World} (h : Below B a W) (hb : B ≤ b) (x y z : Value) : Below B a (((W.setCell ⟨b, 0, none⟩ x).setCell ⟨b, 1, none⟩ y).setCell ⟨b, 2, none⟩ z) := ((h.setCell (p := ⟨b, 0, none⟩) hb _).setCell (p := ⟨b, 1, none⟩) hb _).setCell (p := ⟨b, 2, none⟩) hb _
theorem set3_other {W : World} {b q : Nat} (hq : q ≠ b) (x y z : Value) : (((W.setCell ⟨b, 0, none⟩ x).setCell ⟨b, 1, none⟩ y).setCell ⟨b, 2, none⟩ z).heap[q]? = W.heap[q]? :=
  (heap_setCell_other _ ⟨b, 2, none⟩ q z hq).trans ((heap_setCell_other _ ⟨b, 1, none⟩ q y hq).trans (heap_setCell_other _ ⟨b, 0, none⟩ q x hq))
/-- A row appended to and stored back. -/
theorem OwnN.appendAt {α : Type} {f : α → List Value} {s : Nat} {eo ei : TypeId} {W W1 W2 : World} {base j g n cap : Nat} {v' : Value} {us : List Value} {L : List (List α)} {m : List α} (h : OwnN f s eo ei W base W.heap.size (.slice (some ⟨g, 0, none⟩) n cap) us L) (hj : j < L.length) (hW1 : Below W.heap.size W W1)
    (hrow : W2.ownsRow base ei s v' m.length (m.flatMap f)) (hg : W1.grownBy W2 (us.getD j undef).ownBlock) (hv : v'.ownBlock = (us.getD j undef).ownBlock ∨ v'.ownBlock = some W1.heap.size) :
    OwnN f s eo ei (W2.setCell ⟨g, j, none⟩ v') base (W2.setCell ⟨g, j, none⟩ v').heap.size (.slice (some ⟨g, 0, none⟩) n cap) (us.set j v') (L.set j m) := by
  have h1 := h.later (Nat.le_refl _) hW1
  obtain rfl := h1.count
  have hgt := h1.topv g rfl
  have hne : ∀ k, v'.ownBlock = some k → k ≠ g := by
    intro k e1 e2
    subst e2
    rcases hv with hv | hv
    · exact h1.apart j hj k rfl (hv ▸ e1)
    · rw [hv] at e1
      injection e1 with e1
      have := hW1.size
      omega
  have ho := ownV_block h1.row (W' := W2) fun k e => hg.block k (h1.row.lt k e).2 (fun e2 => h1.apart j hj k e e2.symm)
  refine h1.put hj (ho.stored j v').1 (ownV_block hrow fun k e => heap_setCell_other W2 ⟨g, j, none⟩ k v' (hne k e)) (fun k h2 h3 _ h5 => ?_) ?_
  · rw [heap_setCell_other W2 ⟨g, j, none⟩ k v' (fun e => h3 (by rw [e]; rfl))]
    exact hg.block k h2 (fun e => h5 e.symm)
  · rcases hv with hv | hv
    · exact .inl hv
    · refine .inr fun k e => ?_
      rw [hv] at e
      injection e with e
      have := hW1.size
      omega
/-- A row that neither an append beside it nor the store of its result touches. -/
theorem row_after {WA w6 : World} {o : Obj} {G i b n z : Nat} {e : TypeId} {u v6 v : Value} {xs : List Value} (h : WA.ownsRow b e z v n xs) (hg : (WA.alloc o).drew.grownBy w6 u.ownBlock) (h1 : v.ownBlock = none ∨ v.ownBlock ≠ u.ownBlock) (h2 : v.ownBlock = none ∨ v.ownBlock ≠ some G) :
    (w6.setCell ⟨G, i, none⟩ v6).ownsRow b e z v n xs :=
  ownV_block ((h.alloc o).drew.kept hg h1) fun q e => heap_setCell_other w6 ⟨G, i, none⟩ q v6 (fun e2 => by
    subst e2
    rcases h2 with h2 | h2
    · rw [h2] at e; cases e
    · exact h2 e)
set_option maxRecDepth 100000 in
set_option maxHeartbeats 3200000 in
theorem icand_any (r c : Int) (s : ByteArray) (n : Nat) (hs : s.size ≤ 4194304) (ad : Option Addr) (capd : Nat) (w : World) :
    Calls Try.prog 25 #[.agg #[.int .i64 r, .int .i64 c, .string s], .slice ad n capd] w fun e w' => ∃ sv mv dv, e = .returned (.agg #[sv, mv, dv]) ∧ Below w.heap.size w w' ∧
      ((n ≠ (slG (r, c, s)).length ∧ sv = .slice none 0 0 ∧ mv = .slice none 0 0 ∧ dv = .slice none 0 0) ∨
       (n = (slG (r, c, s)).length ∧ dv = .slice ad n capd ∧ w'.ownsRow w.heap.size 45 4 sv (slG (r, c, s)).length (row_Slot (slG (r, c, s))) ∧ ∃ us, OwnN cM 3 62 66 w' w.heap.size w'.heap.size mv us (meetTo (crossS (r, c, s)) n (crossS (r, c, s)).length))) := by
  obtain ⟨i0, hi, hz0, hz1, hz2⟩ := info_parts info_meet
  obtain ⟨i1, hi1, hy0, hy1, hy2⟩ := info_parts info_meets
  have HSL := Lib.hid (fun w => islo_any r c s hs w)
  have HCR := Lib.hid (fun w => icr_any r c s hs w)
  have HLEN := Lib.hid (slG_length (r, c, s))
  have HCF := Lib.hid (fun x (h : x ∈ crossS (r, c, s)) => cross_facts h)
  have HCL : Hid ((crossS (r, c, s)).length ≤ 36) := Lib.hid (crossS_no_more (r, c, s))
  obtain ⟨l, hl⟩ : ∃ l, l = slG (r, c, s) := ⟨_, rfl⟩
  have HXS : Hid (∀ x ∈ crossS (r, c, s), ∃ i j p q t : Nat, x = ((i : Int), (j : Int), (p : Int), (q : Int), (t : Int)) ∧ i < j ∧ j < l.length) := Lib.hid (fun x hx => by
    obtain ⟨i, j, p, q, t, e, hij, -, hj, -⟩ := HCF.out x hx
    exact ⟨i, j, p, q, t, e, hij, by rw [hl]; exact hj⟩)
  rw [← hl] at HSL HLEN ⊢
  obtain ⟨X, hX⟩ : ∃ X, X = crossS (r, c, s) := ⟨_, rfl⟩
  rw [← hX] at HCR HCL HXS ⊢
  clear hl hX HCF
  have hl72 := HLEN.out
  have hx36 := HCL.out
  go_enter Try.func25, Try.ntmps25
  go_wp2_with fail
  obtain ⟨W0, hW0⟩ : ∃ W0, W0 = (w.alloc (.cells #[.int .i64 r, .int .i64 c, .string s] 28)).alloc (.cells #[.slice none 0 0, .slice none 0 0, .slice none 0 0] 49) := ⟨_, rfl⟩
  have hws : W0.heap.size = w.heap.size + 2 := by rw [hW0]; simp
  have HBX : Hid (Below w.heap.size w W0) := Lib.hid (by rw [hW0]; exact ((Below.refl _ _).alloc (Nat.le_refl _) _).alloc (by simp) _)
  have HKP : Hid (∀ W, Below W0.heap.size W0 W → (W.cell? ⟨w.heap.size, 0, none⟩ = some (.int .i64 r) ∧ W.cell? ⟨w.heap.size, 1, none⟩ = some (.int .i64 c) ∧ W.cell? ⟨w.heap.size, 2, none⟩ = some (.string s)) ∧ W.heap[w.heap.size + 1]? = some (.cells #[.slice none 0 0, .slice none 0 0, .slice none 0 0] 49 (0, 0))) := Lib.hid (fun W h =>
    ⟨⟨(h.cell (p := ⟨w.heap.size, 0, none⟩) (by show w.heap.size < _; omega)).trans (by rw [hW0]; simp), (h.cell (p := ⟨w.heap.size, 1, none⟩) (by show w.heap.size < _; omega)).trans (by rw [hW0]; simp), (h.cell (p := ⟨w.heap.size, 2, none⟩) (by show w.heap.size < _; omega)).trans (by rw [hW0]; simp)⟩,
    (h.block (w.heap.size + 1) (by omega)).trans (by rw [hW0]; have h9 := heap_alloc_new (w.alloc (.cells #[.int .i64 r, .int .i64 c, .string s] 28)) (.cells #[.slice none 0 0, .slice none 0 0, .slice none 0 0] 49); rw [World.size_alloc] at h9; exact h9)⟩)
  rw [← hW0]
  clear hW0
  obtain ⟨⟨d0, d1, d2⟩, -⟩ := HKP.out _ (Below.refl _ _)
  by_cases h1 : n = l.length
  · subst h1
    have hnn : ((l.length : Int) != (l.length : Int)) = false := bne_self_eq_false _
    go_wp2_with (first | (go_at_call 38; refine (HSL.out _).mono ?_; rintro e w2 ⟨v2, rfl, o2, b2⟩; obtain ⟨a2, cap2, rfl⟩ := ownV_slice o2; have HO2 := Lib.hid o2; have HB2 := Lib.hid b2; clear o2 b2) | (at_make; refine wpList_make_full _ rfl _ _ 47 rfl W0.heap.size 62 i1 (.slice none 0 0) 1 Try.underlying47 hi1 hy0 hy1 .i64 .i64 _ _ l.length rfl rfl rfl rfl (by rw [hy2]; omega) (by unfold maxLen; omega) HB2.out.size ?_; intro w3 hown hgrow; have HO3 := Lib.hid (HO2.out.kept hgrow (by cases h : (Value.slice a2 l.length cap2).ownBlock <;> simp)); have HB3 := Lib.hid (HB2.out.grown hgrow HB2.out.size (fun q h => by cases h)); obtain ⟨⟨g0, g1, g2⟩, -⟩ := HKP.out _ HB3.out; have HM3 := Lib.hid hown; have HZ3 := Lib.hid hgrow.size; clear hown hgrow) | (go_at_call 39; refine (HCR.out _).mono ?_; rintro e w4 ⟨v4, rfl, o4, b4⟩; obtain ⟨a4, cap4, rfl⟩ := ownV_slice o4; have HX4 := Lib.hid o4; have HB4 := Lib.hid (HB3.out.trans (b4.mono HB3.out.size)); have HO4 := Lib.hid (ownV_later HO3.out b4); have HM4 := Lib.hid (ownV_later HM3.out b4); clear o4 b4))
    have HN4 : Hid (∃ us, OwnN cM 3 62 66 w4 W0.heap.size w4.heap.size (.slice (some ⟨w2.heap.size, 0, none⟩) l.length l.length) us (meetTo X l.length 0)) := Lib.hid (by
      have h9 := HM4.out
      rw [Nat.mul_one, show (Value.slice none 0 0).cells = #[Value.slice none 0 0] from rfl, toList_madeCells_one] at h9
      rw [meetTo_zero]
      exact ⟨_, OwnN.made h9⟩)
    have HX5 := Lib.hid (own_base HX4.out HB3.out.size)
    clear HM4 HM3 HO3 HX4 g0 g1 g2
    go_loopw [23] (fun i wr => ∃ k : Nat, k ≤ X.length ∧ i = .int .i64 (k : Int) ∧ Hid (∃ us, OwnN cM 3 62 66 wr W0.heap.size wr.heap.size (.slice (some ⟨w2.heap.size, 0, none⟩) l.length l.length) us (meetTo X l.length k)) ∧ Hid (wr.ownsRow W0.heap.size 59 5 (.slice a4 X.length cap4) X.length (row_Crossing X)) ∧ Hid (wr.ownsRow W0.heap.size 45 4 (.slice a2 l.length cap2) l.length (row_Slot l)) ∧ Hid (Below W0.heap.size W0 wr)) (fun i _ => X.length - (intOf i).toNat)
    case atStart => exact ⟨0, Nat.zero_le _, rfl, HN4, HX5, HO4, HB4⟩
    case round =>
      clear HN4 HX5 HO4 HB4
      obtain ⟨k, hk, rfl, ⟨us, hn⟩, HX, HO, HB⟩ := hrel
      by_cases hlt : k < X.length
      · have hd : decide ((k : Int) < (X.length : Int)) = true := decide_eq_true (by omega)
        obtain ⟨-, a9, cap9, e9, -, hxc⟩ := (reads_Crossing_own HX.out rfl (by omega)).cells
        injection e9 with e9 _ e10
        subst e9 e10
        obtain ⟨bx, ox, rfl, hbx, q0, q1, q2, q3, q4⟩ := hxc k hlt
        clear hxc
        obtain ⟨i, j, p, q, t, hx, hij, hj⟩ := HXS.out (X.getD k none_Crossing) (by simp [List.getD, hlt])
        have HNX := Lib.hid (meetTo_next (n := l.length) hlt hx hij)
        rw [hx] at q0 q1 q2 q3 q4
        simp only at q0 q1 q2 q3 q4
        have hil : i < l.length := by omega
        have hml := meetTo_length X l.length k
        have ci := hn.spot (j := i) (by omega)
        have cj := hn.spot (j := j) (by omega)
        have fi := hn.soft i
        have fj := hn.soft j
        have hini := hn.inner i (by omega)
        have hinj := hn.inner j (by omega)
        rw [meetTo_at X _ k hil] at hini
        rw [meetTo_at X _ k hj] at hinj
        have hmi := meetS_len X k i
        have hmj := meetS_len X k j
        obtain ⟨Mi, hMi⟩ : ∃ M, M = meetS (X.take k) i := ⟨_, rfl⟩
        obtain ⟨Mj, hMj⟩ : ∃ M, M = meetS (X.take k) j := ⟨_, rfl⟩
        rw [← hMi] at hini hmi HNX
        rw [← hMj] at hinj hmj HNX
        obtain ⟨ui, hui⟩ : ∃ u, u = us.getD i undef := ⟨_, rfl⟩
        obtain ⟨uj, huj⟩ : ∃ u, u = us.getD j undef := ⟨_, rfl⟩
        rw [← hui] at ci hini
        rw [← huj] at cj hinj
        have HII := Lib.hid hini
        have HIJ := Lib.hid hinj
        obtain ⟨ai, cci, rfl⟩ := ownV_slice hini
        obtain ⟨aj, ccj, rfl⟩ := ownV_slice hinj
        have HN := Lib.hid hn
        have HMJ := Lib.hid hMj
        have HUI := Lib.hid hui
        have HUJ := Lib.hid huj
        clear hx hn hMi hMj hini hinj hml hui huj
        obtain ⟨WA, hWA⟩ : ∃ WA, WA = wr.alloc (.cells #[.int .i64 i, .int .i64 j, .int .i64 p, .int .i64 q, .int .i64 t] 59) := ⟨_, rfl⟩
        have HA : Hid (Below wr.heap.size wr WA) := Lib.hid (by rw [hWA]; exact (Below.refl _ _).alloc (Nat.le_refl _) _)
        have hwa : WA.heap.size = wr.heap.size + 1 := by rw [hWA]; simp
        have hG := (HN.out.low w2.heap.size rfl).2
        have hgc : ∀ W, Below WA.heap.size WA W → W.heap[w2.heap.size]? = wr.heap[w2.heap.size]? := fun W h => (h.block w2.heap.size (by omega)).trans (HA.out.block w2.heap.size hG)
        have HSC : Hid (∀ W, Below WA.heap.size WA W → ((W.cell? ⟨wr.heap.size, 0, none⟩ = some (.int .i64 (i : Int)) ∧ W.cell? ⟨wr.heap.size, 1, none⟩ = some (.int .i64 (j : Int))) ∧ (W.cell? ⟨wr.heap.size, 2, none⟩ = some (.int .i64 (p : Int)) ∧ W.cell? ⟨wr.heap.size, 3, none⟩ = some (.int .i64 (q : Int))))) := Lib.hid (fun W h => ⟨⟨(h.cell (p := ⟨wr.heap.size, 0, none⟩) (by show wr.heap.size < _; omega)).trans (by rw [hWA]; simp), (h.cell (p := ⟨wr.heap.size, 1, none⟩) (by show wr.heap.size < _; omega)).trans (by rw [hWA]; simp)⟩, (h.cell (p := ⟨wr.heap.size, 2, none⟩) (by show wr.heap.size < _; omega)).trans (by rw [hWA]; simp), (h.cell (p := ⟨wr.heap.size, 3, none⟩) (by show wr.heap.size < _; omega)).trans (by rw [hWA]; simp)⟩)
        have HNA := Lib.hid (HN.out.now HA.out)
        have HIA := Lib.hid (ownV_later HII.out HA.out)
        have HXA := Lib.hid (ownV_later HX.out HA.out)
        have HOA := Lib.hid (ownV_later HO.out HA.out)
        have HBA := Lib.hid (HB.out.trans (HA.out.mono HB.out.size))
        have HGC : Hid (∀ W, Below WA.heap.size WA W → W.cell? ⟨w2.heap.size, i, none⟩ = some (.slice ai Mi.length cci) ∧ W.frozen? ⟨w2.heap.size, i, none⟩ = false) := Lib.hid (fun W h => ⟨(World.cell?_of_block (a := ⟨w2.heap.size, i, none⟩) (hgc W h)).trans ci, (World.frozen?_of_block (a := ⟨w2.heap.size, i, none⟩) (hgc W h)).trans fi⟩)
        have HIL := Lib.hid HII.out.lt
        have hne1 : some wr.heap.size ≠ (Value.slice ai Mi.length cci).ownBlock := fun e => by have := (HIL.out _ e.symm).2; omega
        have hne2 : some w2.heap.size ≠ (Value.slice ai Mi.length cci).ownBlock := fun e => by have h9 := HN.out.apart i (by rw [meetTo_length]; exact hil) w2.heap.size rfl; rw [← HUI.out] at h9; exact h9 e.symm
        have hwg : wr.heap.size ≠ w2.heap.size := by omega
        have HIJL : Hid (∀ q, (us.getD j undef).ownBlock = some q → W0.heap.size ≤ q ∧ q < wr.heap.size) := Lib.hid (by rw [← HUJ.out]; exact HIJ.out.lt)
        go_wp2_with fail
        rw [← hWA]
        have HWZ := Lib.hid hwa
        have HWS := Lib.hid hws
        have hiw : wr.heap.size < WA.heap.size := by omega
        clear hWA hgc hwa hws q0 q1 q2 q3 q4 ci fi cj fj
        have hjl : i < (meetTo X l.length k).length := by rw [meetTo_length]; exact hil
        have HUE := HUI
        have hbn : Below WA.heap.size WA WA := Below.refl _ _
        have gi := (HGC.out _ hbn).1
        have ge := fun o => (HGC.out _ (hbn.alloc hbn.size o)).1
        go_cut [] (fun wx => Hid (∃ us1, OwnN cM 3 62 66 wx W0.heap.size wx.heap.size (.slice (some ⟨w2.heap.size, 0, none⟩) l.length l.length) us1 ((meetTo X l.length k).set i (Mi ++ [(p, j, q)])) ∧ some wr.heap.size ≠ (us1.getD j undef).ownBlock) ∧ Hid (wx.ownsRow W0.heap.size 59 5 (.slice (some ⟨bx, ox, none⟩) X.length cap4) X.length (row_Crossing X)) ∧ Hid (wx.ownsRow W0.heap.size 45 4 (.slice a2 l.length cap2) l.length (row_Slot l)) ∧ Hid (Below W0.heap.size W0 wx) ∧ Hid (((wx.cell? ⟨wr.heap.size, 0, none⟩ = some (.int .i64 (i : Int)) ∧ wx.cell? ⟨wr.heap.size, 1, none⟩ = some (.int .i64 (j : Int))) ∧ (wx.cell? ⟨wr.heap.size, 2, none⟩ = some (.int .i64 (p : Int)) ∧ wx.cell? ⟨wr.heap.size, 3, none⟩ = some (.int .i64 (q : Int))))))
        case first =>
          refine wp_region_held_drew (S := (fun W => ((W.cell? ⟨wr.heap.size, 0, none⟩ = some (.int .i64 (i : Int)) ∧ W.cell? ⟨wr.heap.size, 1, none⟩ = some (.int .i64 (j : Int))) ∧ (W.cell? ⟨wr.heap.size, 2, none⟩ = some (.int .i64 (p : Int)) ∧ W.cell? ⟨wr.heap.size, 3, none⟩ = some (.int .i64 (q : Int)))))) (by kernel_rfl) ?_ (fun hHeld => ?_)
          · exact HSC.out _ hbn.drew
          refine wpAnyH_take (i := 0) (v := ?_) rfl (by kernel_rfl) (by kernel_rfl) (by kernel_rfl) (fun _ _ _ h => h) (Or.inl ⟨by rfl, ?_⟩) (by assumption) ?_
          rotate_left
          · intro w9 hSw
            try dsimp only at hSw
            go_simp
            all_goals with_reducible rfl
          refine wpAnyH_take (i := 1) (v := ?_) rfl (by kernel_rfl) (by kernel_rfl) (by kernel_rfl) (fun _ _ _ h => h) (Or.inl ⟨by rfl, ?_⟩) (by assumption) ?_
          rotate_left
          · intro w9 hSw
            try dsimp only at hSw
            go_simp
            all_goals with_reducible rfl
          refine wpAnyH_take (i := 2) (v := ?_) rfl (by kernel_rfl) (by kernel_rfl) (by kernel_rfl) (fun _ _ _ h => h) (Or.inl ⟨by rfl, ?_⟩) (by assumption) ?_
          rotate_left
          · intro w9 hSw
            try dsimp only at hSw
            go_simp
            all_goals with_reducible rfl
          refine wpAnyH_take (i := 3) (v := ?_) rfl (by kernel_rfl) (by kernel_rfl) (by kernel_rfl) (fun _ _ _ h => h) (Or.inl ⟨by rfl, ?_⟩) (by assumption) ?_
          rotate_left
          · intro w9 hSw
            try dsimp only at hSw
            go_simp
            all_goals with_reducible rfl
          refine wpAnyH_take (i := 4) (v := ?_) rfl (by kernel_rfl) (by kernel_rfl) (by kernel_rfl) (fun _ _ _ h => h) (Or.inl ⟨by rfl, ?_⟩) (by assumption) ?_
          rotate_left
          · intro w9 hSw
            try dsimp only at hSw
            go_simp
            all_goals with_reducible rfl
          refine wpAnyH_take (i := 5) (v := ?_) rfl (by kernel_rfl) (by kernel_rfl) (by kernel_rfl) (fun _ _ _ h => h) (Or.inl ⟨by rfl, ?_⟩) (by assumption) ?_
          rotate_left
          · intro w9 hSw
            try dsimp only at hSw
            go_simp
            all_goals with_reducible rfl
          refine wpAnyH_take (i := 6) (v := ?_) rfl (by kernel_rfl) (by kernel_rfl) (by kernel_rfl) (fun _ _ _ h => h) (Or.inl ⟨by rfl, ?_⟩) (by assumption) ?_
          rotate_left
          · intro w9 hSw
            try dsimp only at hSw
            go_simp
            all_goals with_reducible rfl
          refine wpAnyH_take (i := 8) (v := ?_) rfl (by kernel_rfl) (by kernel_rfl) (by kernel_rfl) (fun _ _ _ h => h) (Or.inl ⟨by rfl, ?_⟩) (by assumption) ?_
          rotate_left
          · intro w9 hSw
            try dsimp only at hSw
            go_simp
            all_goals with_reducible rfl
          refine wpAnyH_take (i := 9) (v := ?_) rfl (by kernel_rfl) (by kernel_rfl) (by kernel_rfl) (fun _ _ _ h => h) (Or.inl ⟨by rfl, ?_⟩) (by assumption) ?_
          rotate_left
          · intro w9 hSw
            try dsimp only at hSw
            go_simp
            all_goals with_reducible rfl
          refine wpAnyH_take (i := 10) (v := ?_) rfl (by kernel_rfl) (by kernel_rfl) (by kernel_rfl) (fun _ _ _ h => h) (Or.inl ⟨by rfl, ?_⟩) (by assumption) ?_
          rotate_left
          · intro w9 hSw
            try dsimp only at hSw
            go_simp
            all_goals with_reducible rfl
          refine wpAnyH_take (i := 11) (v := ?_) rfl (by kernel_rfl) (by kernel_rfl) (by kernel_rfl) (fun _ _ _ h => h) (Or.inl ⟨by rfl, ?_⟩) (by assumption) ?_
          rotate_left
          · intro w9 hSw
            try dsimp only at hSw
            go_simp
            all_goals with_reducible rfl
          refine wpAnyH_take (i := 12) (v := ?_) rfl (by kernel_rfl) (by kernel_rfl) (by kernel_rfl) (fun _ _ _ h => h) (Or.inl ⟨by rfl, ?_⟩) (by assumption) ?_
          rotate_left
          · intro w9 hSw
            try dsimp only at hSw
            go_simp
            all_goals with_reducible rfl
          refine wpAnyH_take (i := 13) (v := ?_) rfl (by kernel_rfl) (by kernel_rfl) (by kernel_rfl) (fun _ _ _ h => h) (Or.inl ⟨by rfl, ?_⟩) (by assumption) ?_
          rotate_left
          · intro w9 hSw
            try dsimp only at hSw
            go_simp
            all_goals with_reducible rfl
          refine wpAnyH_take (i := 14) (v := ?_) rfl (by kernel_rfl) (by kernel_rfl) (by kernel_rfl) (fun _ _ _ h => h) (Or.inl ⟨by rfl, ?_⟩) (by assumption) ?_
          rotate_left
          · intro w9 hSw
            try dsimp only at hSw
            go_simp
            all_goals with_reducible rfl
          refine wpAnyH_take (i := 15) (v := ?_) rfl (by kernel_rfl) (by kernel_rfl) (by kernel_rfl) (fun _ _ _ h => h) (Or.inl ⟨by rfl, ?_⟩) (by assumption) ?_
          rotate_left
          · intro w9 hSw
            try dsimp only at hSw
            go_simp
            all_goals with_reducible rfl
          refine wpAnyH_ready (rs := [7, 16]) (by kernel_rfl) (by simp) ?_
          refine AllReadyH.cons rfl (fun K hK => ?_) ?_
          · go_simp
            refine hK.out _ _ ?_ (fun hHeld2 => ?_)
            · (try dsimp only)
              first | exact HSC.out _ hbn.drew | exact HSC.out _ (hbn.alloc hbn.size _).drew
            clear hK K hHeld
            have hHeld := hHeld2
            clear hHeld2
            refine wpAnyH_ready (rs := [16]) (by kernel_rfl) (by simp) ?_
            refine AllReadyH.cons rfl (fun K hK => ?_) ?_
            · go_simp
              refine hK.out _ _ ?_ (fun hHeld2 => ?_)
              · (try dsimp only)
                first | exact HSC.out _ hbn.drew | exact HSC.out _ (hbn.alloc hbn.size _).drew
              clear hK K hHeld
              have hHeld := hHeld2
              clear hHeld2
              refine wpAnyH_ready (rs := [17]) (by kernel_rfl) (by simp) ?_
              refine AllReadyH.cons rfl (fun K hK => ?_) ?_
              · refine step_appendW rfl (.tmp 34) (.tmp 43) 62 rfl W0.heap.size 66 i0 (.agg #[.int .i64 0, .int .i64 0, .int .i64 0]) 3 24 Try.underlying62 hi hz0 hz1 hz2 rfl (by decide) (.slice ai Mi.length cci) Mi.length (Mi.flatMap cM) rfl (HIA.out.alloc (.cells #[.int .i64 (p : Int), .int .i64 (j : Int), .int .i64 (q : Int)] 66)).drew ⟨WA.heap.size, 0, none⟩ 1 1 (cM (p, j, q)) rfl rfl (by decide) (cM_one _) (oneM WA (p, j, q) _) (by omega) (by omega) (le_alloc HBA.out.size _) ?_
                intro v6 w6 hown hgrow hwhere
                obtain ⟨a6, c6, rfl⟩ := ownV_slice hown
                have hgrow : (WA.alloc (.cells #[.int .i64 (p : Int), .int .i64 (j : Int), .int .i64 (q : Int)] 66)).drew.grownBy w6 (Value.slice ai Mi.length cci).ownBlock := hgrow
                have HO6 := Lib.hid hown
                have HG6 := Lib.hid hgrow
                have HW6 := Lib.hid hwhere
                have hS3 := HSC.out _ (hbn.alloc hbn.size (.cells #[.int .i64 (p : Int), .int .i64 (j : Int), .int .i64 (q : Int)] 66)).drew
                have hG3 := HGC.out _ (hbn.alloc hbn.size (.cells #[.int .i64 (p : Int), .int .i64 (j : Int), .int .i64 (q : Int)] 66)).drew
                have cS := And.intro (And.intro (hgrow.cell hS3.1.1 hne1) (hgrow.cell hS3.1.2 hne1)) (And.intro (hgrow.cell hS3.2.1 hne1) (hgrow.cell hS3.2.2 hne1))
                have cT := fun u => And.intro (And.intro ((World.cell?_of_block (a := ⟨wr.heap.size, 0, none⟩) (heap_setCell_other w6 ⟨w2.heap.size, i, none⟩ wr.heap.size u hwg)).trans cS.1.1) ((World.cell?_of_block (a := ⟨wr.heap.size, 1, none⟩) (heap_setCell_other w6 ⟨w2.heap.size, i, none⟩ wr.heap.size u hwg)).trans cS.1.2)) (And.intro ((World.cell?_of_block (a := ⟨wr.heap.size, 2, none⟩) (heap_setCell_other w6 ⟨w2.heap.size, i, none⟩ wr.heap.size u hwg)).trans cS.2.1) ((World.cell?_of_block (a := ⟨wr.heap.size, 3, none⟩) (heap_setCell_other w6 ⟨w2.heap.size, i, none⟩ wr.heap.size u hwg)).trans cS.2.2))
                have k4 := hgrow.cell hG3.1 hne2
                have l4 := (World.frozen?_of_block (a := ⟨w2.heap.size, i, none⟩) (hgrow.block w2.heap.size (World.block_lt_of_cell? _ _ hG3.1) hne2)).trans hG3.2
                clear hown hgrow hwhere hS3 hG3
                refine hK.out _ _ ?_ (fun hHeld2 => ?_)
                · (try dsimp only)
                  exact cS
                clear hK K hHeld
                have hHeld := hHeld2
                clear hHeld2
                refine wpAnyH_take (i := 18) (v := ?_) rfl (by kernel_rfl) (by kernel_rfl) (by kernel_rfl) (fun _ _ _ h => h) (Or.inl ⟨by rfl, ?_⟩) (by assumption) ?_
                rotate_left
                · intro w9 hSw
                  try dsimp only at hSw
                  go_simp
                  all_goals with_reducible rfl
                refine wpAnyH_ready (rs := [19]) (by kernel_rfl) (by simp) ?_
                refine AllReadyH.cons rfl (fun K hK => ?_) ?_
                · go_simp
                  refine hK.out _ _ ?_ (fun hHeld2 => ?_)
                  · (try dsimp only)
                    exact cT _
                  clear hK K hHeld
                  have hHeld := hHeld2
                  clear hHeld2
                  refine wpAnyH_done (by kernel_rfl) ?_ _
                  have HNZ := Lib.hid (HNA.out.appendAt (j := i) (v' := .slice a6 (Mi.length + 1) c6) (m := Mi ++ [(p, j, q)]) hjl (hbn.alloc hbn.size (.cells #[.int .i64 (p : Int), .int .i64 (j : Int), .int .i64 (q : Int)] 66)).drew (by rw [List.length_append, List.flatMap_append, List.flatMap_cons, List.flatMap_nil, List.append_nil]; exact HO6.out) (by rw [← HUE.out]; exact HG6.out) (by rw [← HUE.out]; exact HW6.out))
                  have HXZ := Lib.hid (row_after (G := w2.heap.size) (i := i) (v6 := .slice a6 (Mi.length + 1) c6) HXA.out HG6.out (own_types HIA.out HXA.out (by decide)) (own_types HNA.out.row HXA.out (by decide)))
                  have HOZ := Lib.hid (row_after (G := w2.heap.size) (i := i) (v6 := .slice a6 (Mi.length + 1) c6) HOA.out HG6.out (own_types HIA.out HOA.out (by decide)) (own_types HNA.out.row HOA.out (by decide)))
                  have HBZ := Lib.hid (((HBA.out.alloc HBA.out.size (.cells #[.int .i64 (p : Int), .int .i64 (j : Int), .int .i64 (q : Int)] 66)).drew.grown HG6.out (le_alloc HBA.out.size _) (fun q h => (HIA.out.lt q h).1)).setCell (p := ⟨w2.heap.size, i, none⟩) (HNA.out.low w2.heap.size rfl).1 (.slice a6 (Mi.length + 1) c6))
                  have cT2 := cT (.slice a6 (Mi.length + 1) c6)
                  go_wp2_with fail
                  go_meet
                  exact ⟨Lib.hid ⟨_, HNZ.out, by rw [getD_set_ne (show i ≠ j by omega)]; exact fun e => by have := (HIJL.out _ e.symm).2; omega⟩, HXZ, HOZ, HBZ, Lib.hid cT2⟩
                exact AllReadyH.nil
              exact AllReadyH.nil
            exact AllReadyH.nil
          refine AllReadyH.cons rfl (fun K hK => ?_) ?_
          · go_simp
            refine hK.out _ _ ?_ (fun hHeld2 => ?_)
            · (try dsimp only)
              first | exact HSC.out _ hbn.drew | exact HSC.out _ (hbn.alloc hbn.size _).drew
            clear hK K hHeld
            have hHeld := hHeld2
            clear hHeld2
            refine wpAnyH_ready (rs := [7]) (by kernel_rfl) (by simp) ?_
            refine AllReadyH.cons rfl (fun K hK => ?_) ?_
            · go_simp
              refine hK.out _ _ ?_ (fun hHeld2 => ?_)
              · (try dsimp only)
                first | exact HSC.out _ hbn.drew | exact HSC.out _ (hbn.alloc hbn.size _).drew
              clear hK K hHeld
              have hHeld := hHeld2
              clear hHeld2
              refine wpAnyH_ready (rs := [17]) (by kernel_rfl) (by simp) ?_
              refine AllReadyH.cons rfl (fun K hK => ?_) ?_
              · refine step_appendW rfl (.tmp 34) (.tmp 43) 62 rfl W0.heap.size 66 i0 (.agg #[.int .i64 0, .int .i64 0, .int .i64 0]) 3 24 Try.underlying62 hi hz0 hz1 hz2 rfl (by decide) (.slice ai Mi.length cci) Mi.length (Mi.flatMap cM) rfl (HIA.out.alloc (.cells #[.int .i64 (p : Int), .int .i64 (j : Int), .int .i64 (q : Int)] 66)).drew ⟨WA.heap.size, 0, none⟩ 1 1 (cM (p, j, q)) rfl rfl (by decide) (cM_one _) (oneM WA (p, j, q) _) (by omega) (by omega) (le_alloc HBA.out.size _) ?_
                intro v6 w6 hown hgrow hwhere
                obtain ⟨a6, c6, rfl⟩ := ownV_slice hown
                have hgrow : (WA.alloc (.cells #[.int .i64 (p : Int), .int .i64 (j : Int), .int .i64 (q : Int)] 66)).drew.grownBy w6 (Value.slice ai Mi.length cci).ownBlock := hgrow
                have HO6 := Lib.hid hown
                have HG6 := Lib.hid hgrow
                have HW6 := Lib.hid hwhere
                have hS3 := HSC.out _ (hbn.alloc hbn.size (.cells #[.int .i64 (p : Int), .int .i64 (j : Int), .int .i64 (q : Int)] 66)).drew
                have hG3 := HGC.out _ (hbn.alloc hbn.size (.cells #[.int .i64 (p : Int), .int .i64 (j : Int), .int .i64 (q : Int)] 66)).drew
                have cS := And.intro (And.intro (hgrow.cell hS3.1.1 hne1) (hgrow.cell hS3.1.2 hne1)) (And.intro (hgrow.cell hS3.2.1 hne1) (hgrow.cell hS3.2.2 hne1))
                have cT := fun u => And.intro (And.intro ((World.cell?_of_block (a := ⟨wr.heap.size, 0, none⟩) (heap_setCell_other w6 ⟨w2.heap.size, i, none⟩ wr.heap.size u hwg)).trans cS.1.1) ((World.cell?_of_block (a := ⟨wr.heap.size, 1, none⟩) (heap_setCell_other w6 ⟨w2.heap.size, i, none⟩ wr.heap.size u hwg)).trans cS.1.2)) (And.intro ((World.cell?_of_block (a := ⟨wr.heap.size, 2, none⟩) (heap_setCell_other w6 ⟨w2.heap.size, i, none⟩ wr.heap.size u hwg)).trans cS.2.1) ((World.cell?_of_block (a := ⟨wr.heap.size, 3, none⟩) (heap_setCell_other w6 ⟨w2.heap.size, i, none⟩ wr.heap.size u hwg)).trans cS.2.2))
                have k4 := hgrow.cell hG3.1 hne2
                have l4 := (World.frozen?_of_block (a := ⟨w2.heap.size, i, none⟩) (hgrow.block w2.heap.size (World.block_lt_of_cell? _ _ hG3.1) hne2)).trans hG3.2
                clear hown hgrow hwhere hS3 hG3
                refine hK.out _ _ ?_ (fun hHeld2 => ?_)
                · (try dsimp only)
                  exact cS
                clear hK K hHeld
                have hHeld := hHeld2
                clear hHeld2
                refine wpAnyH_take (i := 18) (v := ?_) rfl (by kernel_rfl) (by kernel_rfl) (by kernel_rfl) (fun _ _ _ h => h) (Or.inl ⟨by rfl, ?_⟩) (by assumption) ?_
                rotate_left
                · intro w9 hSw
                  try dsimp only at hSw
                  go_simp
                  all_goals with_reducible rfl
                refine wpAnyH_ready (rs := [19]) (by kernel_rfl) (by simp) ?_
                refine AllReadyH.cons rfl (fun K hK => ?_) ?_
                · go_simp
                  refine hK.out _ _ ?_ (fun hHeld2 => ?_)
                  · (try dsimp only)
                    exact cT _
                  clear hK K hHeld
                  have hHeld := hHeld2
                  clear hHeld2
                  refine wpAnyH_done (by kernel_rfl) ?_ _
                  have HNZ := Lib.hid (HNA.out.appendAt (j := i) (v' := .slice a6 (Mi.length + 1) c6) (m := Mi ++ [(p, j, q)]) hjl (hbn.alloc hbn.size (.cells #[.int .i64 (p : Int), .int .i64 (j : Int), .int .i64 (q : Int)] 66)).drew (by rw [List.length_append, List.flatMap_append, List.flatMap_cons, List.flatMap_nil, List.append_nil]; exact HO6.out) (by rw [← HUE.out]; exact HG6.out) (by rw [← HUE.out]; exact HW6.out))
                  have HXZ := Lib.hid (row_after (G := w2.heap.size) (i := i) (v6 := .slice a6 (Mi.length + 1) c6) HXA.out HG6.out (own_types HIA.out HXA.out (by decide)) (own_types HNA.out.row HXA.out (by decide)))
                  have HOZ := Lib.hid (row_after (G := w2.heap.size) (i := i) (v6 := .slice a6 (Mi.length + 1) c6) HOA.out HG6.out (own_types HIA.out HOA.out (by decide)) (own_types HNA.out.row HOA.out (by decide)))
                  have HBZ := Lib.hid (((HBA.out.alloc HBA.out.size (.cells #[.int .i64 (p : Int), .int .i64 (j : Int), .int .i64 (q : Int)] 66)).drew.grown HG6.out (le_alloc HBA.out.size _) (fun q h => (HIA.out.lt q h).1)).setCell (p := ⟨w2.heap.size, i, none⟩) (HNA.out.low w2.heap.size rfl).1 (.slice a6 (Mi.length + 1) c6))
                  have cT2 := cT (.slice a6 (Mi.length + 1) c6)
                  go_wp2_with fail
                  go_meet
                  exact ⟨Lib.hid ⟨_, HNZ.out, by rw [getD_set_ne (show i ≠ j by omega)]; exact fun e => by have := (HIJL.out _ e.symm).2; omega⟩, HXZ, HOZ, HBZ, Lib.hid cT2⟩
                exact AllReadyH.nil
              exact AllReadyH.nil
            exact AllReadyH.nil
          exact AllReadyH.nil
        case rest =>
          obtain ⟨⟨us1, hn1, hu1⟩, HX1, HO1, HB1, HC1⟩ := hcut
          obtain ⟨WB, hWB⟩ : ∃ WB, WB = wc := ⟨_, rfl⟩
          rw [← hWB] at hn1 HX1 HO1 HB1 HC1 ⊢
          clear hWB HSC HGC hne1 hne2 hjl HUE hbn gi ge HIA HXA HOA HNA HBA
          have hL1 : ((meetTo X l.length k).set i (Mi ++ [(p, j, q)])).length = l.length := by rw [List.length_set, meetTo_length]
          have hinj := hn1.inner j (by omega)
          rw [getD_set_ne (show i ≠ j by omega), meetTo_at X _ k hj, ← HMJ.out] at hinj
          have cj := hn1.spot (j := j) (by omega)
          have fj := hn1.soft j
          have hG1 := (hn1.low w2.heap.size rfl).2
          obtain ⟨uj1, huj1⟩ : ∃ u, u = us1.getD j undef := ⟨_, rfl⟩
          rw [← huj1] at hinj cj hu1
          have HIB := Lib.hid hinj
          obtain ⟨ak, cck, rfl⟩ := ownV_slice hinj
          have HNB := Lib.hid hn1
          have HUE := Lib.hid huj1
          have hne1 := hu1
          have hne2 : some w2.heap.size ≠ (Value.slice ak Mj.length cck).ownBlock := fun e => by have h9 := HNB.out.apart j (by omega) w2.heap.size rfl; rw [← HUE.out] at h9; exact h9 e.symm
          have HSC : Hid (∀ W, Below WB.heap.size WB W → ((W.cell? ⟨wr.heap.size, 0, none⟩ = some (.int .i64 (i : Int)) ∧ W.cell? ⟨wr.heap.size, 1, none⟩ = some (.int .i64 (j : Int))) ∧ (W.cell? ⟨wr.heap.size, 2, none⟩ = some (.int .i64 (p : Int)) ∧ W.cell? ⟨wr.heap.size, 3, none⟩ = some (.int .i64 (q : Int))))) := Lib.hid (fun W h => ⟨⟨(h.cell (p := ⟨wr.heap.size, 0, none⟩) (World.block_lt_of_cell? _ _ HC1.out.1.1)).trans HC1.out.1.1, (h.cell (p := ⟨wr.heap.size, 1, none⟩) (World.block_lt_of_cell? _ _ HC1.out.1.2)).trans HC1.out.1.2⟩, (h.cell (p := ⟨wr.heap.size, 2, none⟩) (World.block_lt_of_cell? _ _ HC1.out.2.1)).trans HC1.out.2.1, (h.cell (p := ⟨wr.heap.size, 3, none⟩) (World.block_lt_of_cell? _ _ HC1.out.2.2)).trans HC1.out.2.2⟩)
          have HGC : Hid (∀ W, Below WB.heap.size WB W → W.cell? ⟨w2.heap.size, j, none⟩ = some (.slice ak Mj.length cck) ∧ W.frozen? ⟨w2.heap.size, j, none⟩ = false) := Lib.hid (fun W h => ⟨(World.cell?_of_block (a := ⟨w2.heap.size, j, none⟩) (h.block w2.heap.size hG1)).trans cj, (World.frozen?_of_block (a := ⟨w2.heap.size, j, none⟩) (h.block w2.heap.size hG1)).trans fj⟩)
          have hjl : j < ((meetTo X l.length k).set i (Mi ++ [(p, j, q)])).length := by omega
          have hbn : Below WB.heap.size WB WB := Below.refl _ _
          have gi := (HGC.out _ hbn).1
          have ge := fun o => (HGC.out _ (hbn.alloc hbn.size o)).1
          clear hinj cj fj hn1 huj1 hu1 hL1 HC1
          go_wp2_with fail
          refine wp_region_held_drew (S := (fun W => ((W.cell? ⟨wr.heap.size, 0, none⟩ = some (.int .i64 (i : Int)) ∧ W.cell? ⟨wr.heap.size, 1, none⟩ = some (.int .i64 (j : Int))) ∧ (W.cell? ⟨wr.heap.size, 2, none⟩ = some (.int .i64 (p : Int)) ∧ W.cell? ⟨wr.heap.size, 3, none⟩ = some (.int .i64 (q : Int)))))) (by kernel_rfl) ?_ (fun hHeld => ?_)
          · exact HSC.out _ hbn.drew
          refine wpAnyH_take (i := 0) (v := ?_) rfl (by kernel_rfl) (by kernel_rfl) (by kernel_rfl) (fun _ _ _ h => h) (Or.inl ⟨by rfl, ?_⟩) (by assumption) ?_
          rotate_left
          · intro w9 hSw
            try dsimp only at hSw
            go_simp
            all_goals with_reducible rfl
          refine wpAnyH_take (i := 1) (v := ?_) rfl (by kernel_rfl) (by kernel_rfl) (by kernel_rfl) (fun _ _ _ h => h) (Or.inl ⟨by rfl, ?_⟩) (by assumption) ?_
          rotate_left
          · intro w9 hSw
            try dsimp only at hSw
            go_simp
            all_goals with_reducible rfl
          refine wpAnyH_take (i := 2) (v := ?_) rfl (by kernel_rfl) (by kernel_rfl) (by kernel_rfl) (fun _ _ _ h => h) (Or.inl ⟨by rfl, ?_⟩) (by assumption) ?_
          rotate_left
          · intro w9 hSw
            try dsimp only at hSw
            go_simp
            all_goals with_reducible rfl
          refine wpAnyH_take (i := 3) (v := ?_) rfl (by kernel_rfl) (by kernel_rfl) (by kernel_rfl) (fun _ _ _ h => h) (Or.inl ⟨by rfl, ?_⟩) (by assumption) ?_
          rotate_left
          · intro w9 hSw
            try dsimp only at hSw
            go_simp
            all_goals with_reducible rfl
          refine wpAnyH_take (i := 4) (v := ?_) rfl (by kernel_rfl) (by kernel_rfl) (by kernel_rfl) (fun _ _ _ h => h) (Or.inl ⟨by rfl, ?_⟩) (by assumption) ?_
          rotate_left
          · intro w9 hSw
            try dsimp only at hSw
            go_simp
            all_goals with_reducible rfl
          refine wpAnyH_take (i := 5) (v := ?_) rfl (by kernel_rfl) (by kernel_rfl) (by kernel_rfl) (fun _ _ _ h => h) (Or.inl ⟨by rfl, ?_⟩) (by assumption) ?_
          rotate_left
          · intro w9 hSw
            try dsimp only at hSw
            go_simp
            all_goals with_reducible rfl
          refine wpAnyH_take (i := 6) (v := ?_) rfl (by kernel_rfl) (by kernel_rfl) (by kernel_rfl) (fun _ _ _ h => h) (Or.inl ⟨by rfl, ?_⟩) (by assumption) ?_
          rotate_left
          · intro w9 hSw
            try dsimp only at hSw
            go_simp
            all_goals with_reducible rfl
          refine wpAnyH_take (i := 8) (v := ?_) rfl (by kernel_rfl) (by kernel_rfl) (by kernel_rfl) (fun _ _ _ h => h) (Or.inl ⟨by rfl, ?_⟩) (by assumption) ?_
          rotate_left
          · intro w9 hSw
            try dsimp only at hSw
            go_simp
            all_goals with_reducible rfl
          refine wpAnyH_take (i := 9) (v := ?_) rfl (by kernel_rfl) (by kernel_rfl) (by kernel_rfl) (fun _ _ _ h => h) (Or.inl ⟨by rfl, ?_⟩) (by assumption) ?_
          rotate_left
          · intro w9 hSw
            try dsimp only at hSw
            go_simp
            all_goals with_reducible rfl
          refine wpAnyH_take (i := 10) (v := ?_) rfl (by kernel_rfl) (by kernel_rfl) (by kernel_rfl) (fun _ _ _ h => h) (Or.inl ⟨by rfl, ?_⟩) (by assumption) ?_
          rotate_left
          · intro w9 hSw
            try dsimp only at hSw
            go_simp
            all_goals with_reducible rfl
          refine wpAnyH_take (i := 11) (v := ?_) rfl (by kernel_rfl) (by kernel_rfl) (by kernel_rfl) (fun _ _ _ h => h) (Or.inl ⟨by rfl, ?_⟩) (by assumption) ?_
          rotate_left
          · intro w9 hSw
            try dsimp only at hSw
            go_simp
            all_goals with_reducible rfl
          refine wpAnyH_take (i := 12) (v := ?_) rfl (by kernel_rfl) (by kernel_rfl) (by kernel_rfl) (fun _ _ _ h => h) (Or.inl ⟨by rfl, ?_⟩) (by assumption) ?_
          rotate_left
          · intro w9 hSw
            try dsimp only at hSw
            go_simp
            all_goals with_reducible rfl
          refine wpAnyH_take (i := 13) (v := ?_) rfl (by kernel_rfl) (by kernel_rfl) (by kernel_rfl) (fun _ _ _ h => h) (Or.inl ⟨by rfl, ?_⟩) (by assumption) ?_
          rotate_left
          · intro w9 hSw
            try dsimp only at hSw
            go_simp
            all_goals with_reducible rfl
          refine wpAnyH_take (i := 14) (v := ?_) rfl (by kernel_rfl) (by kernel_rfl) (by kernel_rfl) (fun _ _ _ h => h) (Or.inl ⟨by rfl, ?_⟩) (by assumption) ?_
          rotate_left
          · intro w9 hSw
            try dsimp only at hSw
            go_simp
            all_goals with_reducible rfl
          refine wpAnyH_take (i := 15) (v := ?_) rfl (by kernel_rfl) (by kernel_rfl) (by kernel_rfl) (fun _ _ _ h => h) (Or.inl ⟨by rfl, ?_⟩) (by assumption) ?_
          rotate_left
          · intro w9 hSw
            try dsimp only at hSw
            go_simp
            all_goals with_reducible rfl
          refine wpAnyH_ready (rs := [7, 16]) (by kernel_rfl) (by simp) ?_
          refine AllReadyH.cons rfl (fun K hK => ?_) ?_
          · go_simp
            refine hK.out _ _ ?_ (fun hHeld2 => ?_)
            · (try dsimp only)
              first | exact HSC.out _ hbn.drew | exact HSC.out _ (hbn.alloc hbn.size _).drew
            clear hK K hHeld
            have hHeld := hHeld2
            clear hHeld2
            refine wpAnyH_ready (rs := [16]) (by kernel_rfl) (by simp) ?_
            refine AllReadyH.cons rfl (fun K hK => ?_) ?_
            · go_simp
              refine hK.out _ _ ?_ (fun hHeld2 => ?_)
              · (try dsimp only)
                first | exact HSC.out _ hbn.drew | exact HSC.out _ (hbn.alloc hbn.size _).drew
              clear hK K hHeld
              have hHeld := hHeld2
              clear hHeld2
              refine wpAnyH_ready (rs := [17]) (by kernel_rfl) (by simp) ?_
              refine AllReadyH.cons rfl (fun K hK => ?_) ?_
              · refine step_appendW rfl (.tmp 53) (.tmp 62) 62 rfl W0.heap.size 66 i0 (.agg #[.int .i64 0, .int .i64 0, .int .i64 0]) 3 24 Try.underlying62 hi hz0 hz1 hz2 rfl (by decide) (.slice ak Mj.length cck) Mj.length (Mj.flatMap cM) rfl (HIB.out.alloc (.cells #[.int .i64 (q : Int), .int .i64 (i : Int), .int .i64 (p : Int)] 66)).drew ⟨WB.heap.size, 0, none⟩ 1 1 (cM (q, i, p)) rfl rfl (by decide) (cM_one _) (oneM WB (q, i, p) _) (by omega) (by omega) (le_alloc HB1.out.size _) ?_
                intro v6 w6 hown hgrow hwhere
                obtain ⟨a6, c6, rfl⟩ := ownV_slice hown
                have hgrow : (WB.alloc (.cells #[.int .i64 (q : Int), .int .i64 (i : Int), .int .i64 (p : Int)] 66)).drew.grownBy w6 (Value.slice ak Mj.length cck).ownBlock := hgrow
                have HO6 := Lib.hid hown
                have HG6 := Lib.hid hgrow
                have HW6 := Lib.hid hwhere
                have hS3 := HSC.out _ (hbn.alloc hbn.size (.cells #[.int .i64 (q : Int), .int .i64 (i : Int), .int .i64 (p : Int)] 66)).drew
                have hG3 := HGC.out _ (hbn.alloc hbn.size (.cells #[.int .i64 (q : Int), .int .i64 (i : Int), .int .i64 (p : Int)] 66)).drew
                have cS := And.intro (And.intro (hgrow.cell hS3.1.1 hne1) (hgrow.cell hS3.1.2 hne1)) (And.intro (hgrow.cell hS3.2.1 hne1) (hgrow.cell hS3.2.2 hne1))
                have cT := fun u => And.intro (And.intro ((World.cell?_of_block (a := ⟨wr.heap.size, 0, none⟩) (heap_setCell_other w6 ⟨w2.heap.size, j, none⟩ wr.heap.size u hwg)).trans cS.1.1) ((World.cell?_of_block (a := ⟨wr.heap.size, 1, none⟩) (heap_setCell_other w6 ⟨w2.heap.size, j, none⟩ wr.heap.size u hwg)).trans cS.1.2)) (And.intro ((World.cell?_of_block (a := ⟨wr.heap.size, 2, none⟩) (heap_setCell_other w6 ⟨w2.heap.size, j, none⟩ wr.heap.size u hwg)).trans cS.2.1) ((World.cell?_of_block (a := ⟨wr.heap.size, 3, none⟩) (heap_setCell_other w6 ⟨w2.heap.size, j, none⟩ wr.heap.size u hwg)).trans cS.2.2))
                have k4 := hgrow.cell hG3.1 hne2
                have l4 := (World.frozen?_of_block (a := ⟨w2.heap.size, j, none⟩) (hgrow.block w2.heap.size (World.block_lt_of_cell? _ _ hG3.1) hne2)).trans hG3.2
                clear hown hgrow hwhere hS3 hG3
                refine hK.out _ _ ?_ (fun hHeld2 => ?_)
                · (try dsimp only)
                  exact cS
                clear hK K hHeld
                have hHeld := hHeld2
                clear hHeld2
                refine wpAnyH_take (i := 18) (v := ?_) rfl (by kernel_rfl) (by kernel_rfl) (by kernel_rfl) (fun _ _ _ h => h) (Or.inl ⟨by rfl, ?_⟩) (by assumption) ?_
                rotate_left
                · intro w9 hSw
                  try dsimp only at hSw
                  go_simp
                  all_goals with_reducible rfl
                refine wpAnyH_ready (rs := [19]) (by kernel_rfl) (by simp) ?_
                refine AllReadyH.cons rfl (fun K hK => ?_) ?_
                · go_simp
                  refine hK.out _ _ ?_ (fun hHeld2 => ?_)
                  · (try dsimp only)
                    exact cT _
                  clear hK K hHeld
                  have hHeld := hHeld2
                  clear hHeld2
                  refine wpAnyH_done (by kernel_rfl) ?_ _
                  have HNZ := Lib.hid (HNB.out.appendAt (j := j) (v' := .slice a6 (Mj.length + 1) c6) (m := Mj ++ [(q, i, p)]) hjl (hbn.alloc hbn.size (.cells #[.int .i64 (q : Int), .int .i64 (i : Int), .int .i64 (p : Int)] 66)).drew (by rw [List.length_append, List.flatMap_append, List.flatMap_cons, List.flatMap_nil, List.append_nil]; exact HO6.out) (by rw [← HUE.out]; exact HG6.out) (by rw [← HUE.out]; exact HW6.out))
                  have HXZ := Lib.hid (row_after (G := w2.heap.size) (i := j) (v6 := .slice a6 (Mj.length + 1) c6) HX1.out HG6.out (own_types HIB.out HX1.out (by decide)) (own_types HNB.out.row HX1.out (by decide)))
                  have HOZ := Lib.hid (row_after (G := w2.heap.size) (i := j) (v6 := .slice a6 (Mj.length + 1) c6) HO1.out HG6.out (own_types HIB.out HO1.out (by decide)) (own_types HNB.out.row HO1.out (by decide)))
                  have HBZ := Lib.hid (((HB1.out.alloc HB1.out.size (.cells #[.int .i64 (q : Int), .int .i64 (i : Int), .int .i64 (p : Int)] 66)).drew.grown HG6.out (le_alloc HB1.out.size _) (fun q h => (HIB.out.lt q h).1)).setCell (p := ⟨w2.heap.size, j, none⟩) (HNB.out.low w2.heap.size rfl).1 (.slice a6 (Mj.length + 1) c6))
                  have cT2 := cT (.slice a6 (Mj.length + 1) c6)
                  clear cT2
                  go_wp2_with fail
                  go_roundw
                  case rel => exact ⟨k + 1, by omega, by go_num, Lib.hid ⟨_, by rw [HNX.out]; exact HNZ.out⟩, HXZ, HOZ, HBZ⟩
                  case measure => simp [intOf]; omega
                exact AllReadyH.nil
              exact AllReadyH.nil
            exact AllReadyH.nil
          refine AllReadyH.cons rfl (fun K hK => ?_) ?_
          · go_simp
            refine hK.out _ _ ?_ (fun hHeld2 => ?_)
            · (try dsimp only)
              first | exact HSC.out _ hbn.drew | exact HSC.out _ (hbn.alloc hbn.size _).drew
            clear hK K hHeld
            have hHeld := hHeld2
            clear hHeld2
            refine wpAnyH_ready (rs := [7]) (by kernel_rfl) (by simp) ?_
            refine AllReadyH.cons rfl (fun K hK => ?_) ?_
            · go_simp
              refine hK.out _ _ ?_ (fun hHeld2 => ?_)
              · (try dsimp only)
                first | exact HSC.out _ hbn.drew | exact HSC.out _ (hbn.alloc hbn.size _).drew
              clear hK K hHeld
              have hHeld := hHeld2
              clear hHeld2
              refine wpAnyH_ready (rs := [17]) (by kernel_rfl) (by simp) ?_
              refine AllReadyH.cons rfl (fun K hK => ?_) ?_
              · refine step_appendW rfl (.tmp 53) (.tmp 62) 62 rfl W0.heap.size 66 i0 (.agg #[.int .i64 0, .int .i64 0, .int .i64 0]) 3 24 Try.underlying62 hi hz0 hz1 hz2 rfl (by decide) (.slice ak Mj.length cck) Mj.length (Mj.flatMap cM) rfl (HIB.out.alloc (.cells #[.int .i64 (q : Int), .int .i64 (i : Int), .int .i64 (p : Int)] 66)).drew ⟨WB.heap.size, 0, none⟩ 1 1 (cM (q, i, p)) rfl rfl (by decide) (cM_one _) (oneM WB (q, i, p) _) (by omega) (by omega) (le_alloc HB1.out.size _) ?_
                intro v6 w6 hown hgrow hwhere
                obtain ⟨a6, c6, rfl⟩ := ownV_slice hown
                have hgrow : (WB.alloc (.cells #[.int .i64 (q : Int), .int .i64 (i : Int), .int .i64 (p : Int)] 66)).drew.grownBy w6 (Value.slice ak Mj.length cck).ownBlock := hgrow
                have HO6 := Lib.hid hown
                have HG6 := Lib.hid hgrow
                have HW6 := Lib.hid hwhere
                have hS3 := HSC.out _ (hbn.alloc hbn.size (.cells #[.int .i64 (q : Int), .int .i64 (i : Int), .int .i64 (p : Int)] 66)).drew
                have hG3 := HGC.out _ (hbn.alloc hbn.size (.cells #[.int .i64 (q : Int), .int .i64 (i : Int), .int .i64 (p : Int)] 66)).drew
                have cS := And.intro (And.intro (hgrow.cell hS3.1.1 hne1) (hgrow.cell hS3.1.2 hne1)) (And.intro (hgrow.cell hS3.2.1 hne1) (hgrow.cell hS3.2.2 hne1))
                have cT := fun u => And.intro (And.intro ((World.cell?_of_block (a := ⟨wr.heap.size, 0, none⟩) (heap_setCell_other w6 ⟨w2.heap.size, j, none⟩ wr.heap.size u hwg)).trans cS.1.1) ((World.cell?_of_block (a := ⟨wr.heap.size, 1, none⟩) (heap_setCell_other w6 ⟨w2.heap.size, j, none⟩ wr.heap.size u hwg)).trans cS.1.2)) (And.intro ((World.cell?_of_block (a := ⟨wr.heap.size, 2, none⟩) (heap_setCell_other w6 ⟨w2.heap.size, j, none⟩ wr.heap.size u hwg)).trans cS.2.1) ((World.cell?_of_block (a := ⟨wr.heap.size, 3, none⟩) (heap_setCell_other w6 ⟨w2.heap.size, j, none⟩ wr.heap.size u hwg)).trans cS.2.2))
                have k4 := hgrow.cell hG3.1 hne2
                have l4 := (World.frozen?_of_block (a := ⟨w2.heap.size, j, none⟩) (hgrow.block w2.heap.size (World.block_lt_of_cell? _ _ hG3.1) hne2)).trans hG3.2
                clear hown hgrow hwhere hS3 hG3
                refine hK.out _ _ ?_ (fun hHeld2 => ?_)
                · (try dsimp only)
                  exact cS
                clear hK K hHeld
                have hHeld := hHeld2
                clear hHeld2
                refine wpAnyH_take (i := 18) (v := ?_) rfl (by kernel_rfl) (by kernel_rfl) (by kernel_rfl) (fun _ _ _ h => h) (Or.inl ⟨by rfl, ?_⟩) (by assumption) ?_
                rotate_left
                · intro w9 hSw
                  try dsimp only at hSw
                  go_simp
                  all_goals with_reducible rfl
                refine wpAnyH_ready (rs := [19]) (by kernel_rfl) (by simp) ?_
                refine AllReadyH.cons rfl (fun K hK => ?_) ?_
                · go_simp
                  refine hK.out _ _ ?_ (fun hHeld2 => ?_)
                  · (try dsimp only)
                    exact cT _
                  clear hK K hHeld
                  have hHeld := hHeld2
                  clear hHeld2
                  refine wpAnyH_done (by kernel_rfl) ?_ _
                  have HNZ := Lib.hid (HNB.out.appendAt (j := j) (v' := .slice a6 (Mj.length + 1) c6) (m := Mj ++ [(q, i, p)]) hjl (hbn.alloc hbn.size (.cells #[.int .i64 (q : Int), .int .i64 (i : Int), .int .i64 (p : Int)] 66)).drew (by rw [List.length_append, List.flatMap_append, List.flatMap_cons, List.flatMap_nil, List.append_nil]; exact HO6.out) (by rw [← HUE.out]; exact HG6.out) (by rw [← HUE.out]; exact HW6.out))
                  have HXZ := Lib.hid (row_after (G := w2.heap.size) (i := j) (v6 := .slice a6 (Mj.length + 1) c6) HX1.out HG6.out (own_types HIB.out HX1.out (by decide)) (own_types HNB.out.row HX1.out (by decide)))
                  have HOZ := Lib.hid (row_after (G := w2.heap.size) (i := j) (v6 := .slice a6 (Mj.length + 1) c6) HO1.out HG6.out (own_types HIB.out HO1.out (by decide)) (own_types HNB.out.row HO1.out (by decide)))
                  have HBZ := Lib.hid (((HB1.out.alloc HB1.out.size (.cells #[.int .i64 (q : Int), .int .i64 (i : Int), .int .i64 (p : Int)] 66)).drew.grown HG6.out (le_alloc HB1.out.size _) (fun q h => (HIB.out.lt q h).1)).setCell (p := ⟨w2.heap.size, j, none⟩) (HNB.out.low w2.heap.size rfl).1 (.slice a6 (Mj.length + 1) c6))
                  have cT2 := cT (.slice a6 (Mj.length + 1) c6)
                  clear cT2
                  go_wp2_with fail
                  go_roundw
                  case rel => exact ⟨k + 1, by omega, by go_num, Lib.hid ⟨_, by rw [HNX.out]; exact HNZ.out⟩, HXZ, HOZ, HBZ⟩
                  case measure => simp [intOf]; omega
                exact AllReadyH.nil
              exact AllReadyH.nil
            exact AllReadyH.nil
          exact AllReadyH.nil
      · have hd : decide ((k : Int) < (X.length : Int)) = false := decide_eq_false (by omega)
        obtain rfl : k = X.length := by omega
        have HN := Lib.hid hn
        have HR := Lib.hid (HKP.out _ HB.out).2
        obtain ⟨⟨y0, y1, y2⟩, fy0, fy1, fy2⟩ := block3_cells HR.out
        clear hn
        go_wp2_with fail
        have hR3 := set3_block (x := .slice a2 l.length cap2) (y := .slice (some ⟨w2.heap.size, 0, none⟩) l.length l.length) (z := .slice ad l.length capd) HR.out
        obtain ⟨⟨z0, z1, z2⟩, -⟩ := block3_cells hR3
        refine bodyPost_ret (v := .agg #[.slice a2 l.length cap2, .slice (some ⟨w2.heap.size, 0, none⟩) l.length l.length, .slice ad l.length capd]) (by simp [results, Try.results25, go_sem, z0, z1, z2]) rfl ⟨_, _, _, rfl, set3_below (HBX.out.trans (HB.out.mono HBX.out.size)) (by omega) _ _ _, rfl, own_base (ownV_block HO.out fun q e => set3_other (by have := (HO.out.lt q e).1; omega) _ _ _) (by omega), us, ?_⟩
        exact ((HN.out.kept (fun q h1 _ => set3_other (by omega) _ _ _)).under (by omega)).full
  · have hnn : ((n : Int) != (l.length : Int)) = true := bne_iff_ne.2 (by omega)
    have hne : ((n : Int) == (l.length : Int)) = false := beq_eq_false_iff_ne.2 (by omega)
    have H1 := Lib.hid h1
    clear h1
    go_wp2_with (go_at_call 38; refine (HSL.out _).mono ?_; rintro e w2 ⟨v2, rfl, o2, b2⟩; obtain ⟨a2, cap2, rfl⟩ := ownV_slice o2; have HB2 := Lib.hid b2; obtain ⟨-, hg⟩ := HKP.out _ HB2.out; have HR2 := Lib.hid hg; obtain ⟨⟨y0, y1, y2⟩, fy0, fy1, fy2⟩ := block3_cells hg; clear o2 b2 hg)
    have hR3 := set3_block (x := .slice none 0 0) (y := .slice none 0 0) (z := .slice none 0 0) HR2.out
    obtain ⟨⟨z0, z1, z2⟩, -⟩ := block3_cells hR3
    exact bodyPost_ret (v := .agg #[.slice none 0 0, .slice none 0 0, .slice none 0 0]) (by simp [results, Try.results25, go_sem, z0, z1, z2]) rfl ⟨_, _, _, rfl, set3_below (HBX.out.trans (HB2.out.mono HBX.out.size)) (by omega) _ _ _, .inl ⟨H1.out, rfl, rfl, rfl⟩⟩
end Go.Proofs.Ytmhgejljjjmejaa
