/-
  The program's prune.
-/
import Derived.Test.YtmhgejljjjmejaaPruneI
import Derived.Test.YtmhgejljjjmejaaPruneP
namespace Go.Proofs.Ytmhgejljjjmejaa
open Go.RowKit

theorem info_int9 : (Try.prog.info? 3).map (fun i => (i.zero, i.size, i.bytes)) = some (some (.int .i64 0), 1, 8) := by kernel_rfl
/-- The slots that do not wait have only words with support. -/
def Rest (l : List SlotV) (X : List CrossV) (E : List (List ByteArray)) (Q : List Nat) : Prop := Q.Nodup ∧ (∀ j ∈ Q, j < l.length) ∧ ∀ j, j < l.length → j ∉ Q → ∀ z ∈ E.getD j [], okX l X E j z = true
theorem nodup_le : ∀ (n : Nat) (Q : List Nat), Q.Nodup → (∀ j ∈ Q, j < n) → Q.length ≤ n
  | 0, Q, _, h => by
    cases Q with
    | nil => exact Nat.le_refl _
    | cons a Q => exact absurd (h a (List.mem_cons_self ..)) (Nat.not_lt_zero a)
  | n + 1, Q, hn, h => by
    by_cases hm : n ∈ Q
    · have h1 := nodup_le n (Q.erase n) (hn.erase n) (fun j hj => by
        have h2 := h j (List.mem_of_mem_erase hj)
        have h3 : j ≠ n := fun e => hn.not_mem_erase (e ▸ hj)
        omega)
      rw [List.length_erase_of_mem hm] at h1
      omega
    · have h1 := nodup_le n Q hn (fun j hj => by
        have h2 := h j hj
        have h3 : j ≠ n := fun e => hm (e ▸ hj)
        omega)
      omega
theorem OwnQ.head {w : World} {base n cap g o : Nat} {e : TypeId} {x : Value} {xs : List Value} (h : OwnQ w base e (.slice (some ⟨g, o, none⟩) (n + 1) cap) (n + 1) (x :: xs)) (hn : n + 1 ≤ 140737488355328) : w.cell? ⟨g, o, none⟩ = some x := by
  obtain ⟨-, -, a0, c0, e0, -, hc⟩ := h.reads hn
  injection e0 with e1 e2 e3
  subst e1
  obtain ⟨b, off, e4, -, e5⟩ := hc 0 (by omega)
  injection e4 with e4
  injection e4 with e6 e7
  subst e6 e7
  exact e5
/-- The row of a slot's meetings: where it lies, and its cells, as long as the rows stand. -/
theorem meet_row {eo ei : TypeId} {w : World} {base top nm cm s : Nat} {am : Option Addr} {ums : List Value} {L : List (List (Nat × Nat × Nat))} (h : OwnN cM 3 eo ei w base top (.slice am nm cm) ums L) (hs : s < L.length) (hsm : (L.getD s []).length ≤ 140737488355328) :
    ∃ gm aj cj, am = some ⟨gm, 0, none⟩ ∧ nm = L.length ∧ ∀ W top', OwnN cM 3 eo ei W base top' (.slice am nm cm) ums L → W.cell? ⟨gm, s, none⟩ = some (.slice aj (L.getD s []).length cj) ∧
      ∀ k, k < (L.getD s []).length → ∃ b, aj = some ⟨b, 0, none⟩ ∧ W.cell? ⟨b, k * 3, none⟩ = some (.int .i64 (((L.getD s []).getD k (0, 0, 0)).1 : Int)) ∧ W.cell? ⟨b, k * 3 + 1, none⟩ = some (.int .i64 (((L.getD s []).getD k (0, 0, 0)).2.1 : Int)) ∧ W.cell? ⟨b, k * 3 + 2, none⟩ = some (.int .i64 (((L.getD s []).getD k (0, 0, 0)).2.2 : Int)) := by
  obtain ⟨gm, e1, e2, -, -, -⟩ := h.cell hs
  obtain ⟨aj, cj, e3⟩ := ownV_slice (h.inner s hs)
  refine ⟨gm, aj, cj, e1, e2, fun W top' hW => ?_⟩
  obtain ⟨g', e1', -, hc, -, -⟩ := hW.cell hs
  rw [e1] at e1'
  injection e1' with e1'
  injection e1' with e1'
  subst e1'
  refine ⟨by rw [hc, e3], fun k hk => ?_⟩
  have hi := hW.inner s hs
  rw [e3] at hi
  obtain ⟨b, c', e4⟩ := Joins.ownsRow_form hi (by omega)
  injection e4 with e5 e6 e7
  obtain ⟨a0, cap, e8, hcells⟩ := row3_cells (readsV_own hi hsm)
  injection e8 with e9 e10 e11
  obtain ⟨b', off, f1, -, f2, f3, f4⟩ := hcells k hk
  rw [← e9, e5] at f1
  injection f1 with f1
  injection f1 with f1 f1'
  subst f1 f1'
  rw [Nat.zero_add] at f2 f3 f4
  exact ⟨b, e5, f2, f3, f4⟩
theorem KeptOut.grow {base top : Nat} {a w w' : World} {r : Option Nat} (h : KeptOut base top a w) (hg : w.grownBy w' r) (hr : ∀ k, r = some k → a.heap.size ≤ k) : KeptOut base top a w' :=
  ⟨hg.os.trans h.os, hg.tape.trans h.tape, hg.output.trans h.output, Nat.le_trans h.size hg.size, fun k h1 h2 => (hg.block k (Nat.lt_of_lt_of_le h1 h.size) (fun e => by have := hr k e.symm; omega)).trans (h.block k h1 h2)⟩
theorem OwnN.grow {α : Type} {f : α → List Value} {s : Nat} {eo ei : TypeId} {W W' : World} {base top : Nat} {v : Value} {us : List Value} {L : List (List α)} {r : Option Nat} (h : OwnN f s eo ei W base top v us L) (ht : top ≤ W.heap.size) (hg : W.grownBy W' r) (hr : ∀ k, r = some k → top ≤ k) : OwnN f s eo ei W' base top v us L :=
  h.kept fun k _ h2 => hg.block k (by omega) (fun e => by have := hr k e.symm; omega)
/-- What waits behind a strike. -/
theorem rest_struck {l : List SlotV} {X : List CrossV} (hX : ∀ x ∈ X, ∃ i j p r q : Nat, x = ((i : Int), (j : Int), (p : Int), (r : Int), (q : Int)) ∧ i < j ∧ j < l.length) {E : List (List ByteArray)} {s : Nat} {Q' Q3 : List Nat} (hs : s < E.length) (h : Rest l X E (s :: Q')) (hn : Q3.Nodup) (hin : ∀ j ∈ Q3, j < l.length) (hk : ∀ j ∈ Q', j ∈ Q3) (hm : ∀ u ∈ meetS X s, u.2.1 ∈ Q3) :
    Rest l X (E.set s ((E.getD s []).filter (okX l X E s))) Q3 := by
  refine ⟨hn, hin, fun j hj hjn z hz => ?_⟩
  by_cases e : j = s
  · subst e
    rw [getD_set_eq hs] at hz
    rw [keep_ok hX (self_ok hX j)]
    exact (List.mem_filter.1 hz).2
  · rw [getD_set_ne (Ne.symm e)] at hz
    rw [keep_ok hX (fun ⟨u, hu, e9⟩ => hjn (e9 ▸ hm u hu))]
    exact h.2.2 j hj (by rw [List.mem_cons, not_or]; exact ⟨e, fun h9 => hjn (hk j h9)⟩) z hz
/-- What waits where nothing was struck. -/
theorem rest_same {l : List SlotV} {X : List CrossV} {E : List (List ByteArray)} {s : Nat} {Q' : List Nat} (hs : s < E.length) (h : Rest l X E (s :: Q')) (hl : ¬ ((E.getD s []).filter (okX l X E s)).length < (E.getD s []).length) :
    E.set s ((E.getD s []).filter (okX l X E s)) = E ∧ Rest l X E Q' := by
  have h1 := filter_len_eq (p := okX l X E s) (l := E.getD s []) (by omega)
  refine ⟨by rw [filter_all h1]; exact set_self E s [] hs, ?_⟩
  obtain ⟨r1, r2, r3⟩ := h
  rw [List.nodup_cons] at r1
  refine ⟨r1.2, fun j hj => r2 j (List.mem_cons_of_mem _ hj), fun j hj hjn z hz => ?_⟩
  by_cases e : j = s
  · subst e
    exact h1 z hz
  · exact r3 j hj (by rw [List.mem_cons, not_or]; exact ⟨e, hjn⟩) z hz
set_option maxRecDepth 100000 in
set_option maxHeartbeats 6400000 in
theorem iprune_any (l : List SlotV) (X : List CrossV) (C : List (List ByteArray)) (hX36 : X.length ≤ 36) (hl72 : l.length ≤ 72) (hC : C.length = l.length) (hm : ∀ m ∈ C, m.length ≤ 1048576 ∧ ∀ z ∈ m, z.size ≤ 1048576) (hxf : ∀ k, k < l.length → XFor X l.length k (l.getD k none_Slot).2.2.2.toNat)
    (hxs : ∀ x ∈ X, ∃ i j p r q : Nat, x = ((i : Int), (j : Int), (p : Int), (r : Int), (q : Int)) ∧ i < j ∧ j < l.length)
    (base T1 cs nm cm capd topm : Nat) (as0 am a0 : Option Addr) (us ums : List Value) (w : World) (hT : T1 ≤ w.heap.size)
    (hsl : w.ownsRow T1 45 4 (.slice as0 l.length cs) l.length (row_Slot l)) (hmt : OwnN cM 3 62 66 w T1 topm (.slice am nm cm) ums (meetTo X l.length X.length))
    (hd : OwnN fS 1 33 9 w base T1 (.slice a0 C.length capd) us C) :
    Calls Try.prog 26 #[.agg #[.slice as0 l.length cs, .slice am nm cm, .slice a0 C.length capd]] w fun e w' =>
      e = .returned (.tuple #[]) ∧ ∃ E us', OwnN fS 1 33 9 w' base T1 (.slice a0 C.length capd) us' E ∧ PruS l X C E ∧ KeptOut base T1 w w' := by
  obtain ⟨i0, hi, hz0, hz1, hz2⟩ := info_parts info_int9
  have HSTR : Hid (∀ (W : World) (E : List (List ByteArray)) (us9 : List Value) (k : Nat), k < l.length → E.length = C.length → (∀ m ∈ E, m.length ≤ 1048576 ∧ ∀ z ∈ m, z.size ≤ 1048576) → KeptOut base T1 w W → OwnN fS 1 33 9 W base T1 (.slice a0 C.length capd) us9 E →
      Calls Try.prog 40 #[.agg #[.slice as0 l.length cs, .slice am nm cm, .slice a0 C.length capd], .int .i64 (k : Int)] W fun e w' => e = .returned (.bool (decide (((E.getD k []).filter (okX l X E k)).length < (E.getD k []).length))) ∧ (∃ us', OwnN fS 1 33 9 w' base T1 (.slice a0 C.length capd) us' (E.set k ((E.getD k []).filter (okX l X E k)))) ∧ KeptOut base T1 W w') := Lib.hid (fun W E us9 k hk hE hEm hK hN => by
    obtain ⟨gs, c9, e9⟩ := Joins.ownsRow_form hsl (by omega)
    injection e9 with e9 _ _
    subst e9
    obtain ⟨g, e9, -⟩ := hN.cell (j := k) (by omega)
    subst e9
    rw [← hE] at hN ⊢
    exact istr_any l X E k hk hX36 hl72 (by omega) hEm (hxf k hk) base T1 gs cs nm cm am g capd us9 W (Nat.le_trans hT hK.size) (ownV_block hsl fun q e => hK.block q (hsl.lt q e).2 (.inr (hsl.lt q e).1)) (readsL_own (hmt.full.kept fun q h1 h2 => hK.block q h2 (.inr h1)) (by rw [meetTo_length]; omega) (fun m hm9 => by
      obtain ⟨j, hj, rfl⟩ := List.mem_iff_getElem.1 hm9
      rw [meetTo_length] at hj
      have h8 := meetTo_at X l.length X.length hj
      rw [List.getD_eq_getElem?_getD, List.getElem?_eq_getElem (by rw [meetTo_length]; exact hj), Option.getD_some] at h8
      rw [h8]
      have := meetS_len X X.length j
      omega)) hN)
  have HMR : Hid (∀ k, k < l.length → ∃ gm aj cj, am = some ⟨gm, 0, none⟩ ∧ nm = l.length ∧ ∀ W, KeptOut base T1 w W → W.cell? ⟨gm, k, none⟩ = some (.slice aj (meetS X k).length cj) ∧
      ∀ q, q < (meetS X k).length → ∃ b, aj = some ⟨b, 0, none⟩ ∧ W.cell? ⟨b, q * 3, none⟩ = some (.int .i64 (((meetS X k).getD q (0, 0, 0)).1 : Int)) ∧ W.cell? ⟨b, q * 3 + 1, none⟩ = some (.int .i64 (((meetS X k).getD q (0, 0, 0)).2.1 : Int)) ∧ W.cell? ⟨b, q * 3 + 2, none⟩ = some (.int .i64 (((meetS X k).getD q (0, 0, 0)).2.2 : Int))) := Lib.hid (fun k hk => by
    have h8 := meetTo_at X l.length X.length hk
    rw [List.take_length] at h8
    obtain ⟨gm, aj, cj, e1, e2, h9⟩ := meet_row hmt (s := k) (by rw [meetTo_length]; exact hk) (by rw [h8]; have := meetS_len X X.length k; rw [List.take_length] at this; omega)
    rw [h8] at h9
    rw [meetTo_length] at e2
    exact ⟨gm, aj, cj, e1, e2, fun W hK => h9 W _ (hmt.full.kept fun q h1 h2 => hK.block q h2 (.inr h1))⟩)
  have HMN : Hid (∀ k, (meetS X k).length ≤ 72) := Lib.hid (fun k => by have := meetS_len X X.length k; rw [List.take_length] at this; omega)
  have HCL := Lib.hid hC
  have HM := Lib.hid hm
  have HXF := Lib.hid hxf
  have HXS := Lib.hid hxs
  have HT := Lib.hid hT
  have HSL := Lib.hid hsl
  have HMT := Lib.hid hmt
  have HD := Lib.hid hd
  clear hC hm hxf hxs hT hsl hmt hd
  go_enter Try.func26, Try.ntmps26
  go_wp2_with fail
  obtain ⟨W1, hW1⟩ : ∃ W1, W1 = w.alloc (.cells #[.slice as0 l.length cs, .slice am nm cm, .slice a0 C.length capd] 49) := ⟨_, rfl⟩
  have HBK : Hid (W1.heap[w.heap.size]? = some (.cells #[.slice as0 l.length cs, .slice am nm cm, .slice a0 C.length capd] 49)) := Lib.hid (by rw [hW1]; exact new_block w _)
  have HA : Hid (Below w.heap.size w W1) := Lib.hid (by rw [hW1]; exact (Below.refl _ _).alloc (Nat.le_refl _) _)
  have hwa : W1.heap.size = w.heap.size + 1 := by rw [hW1]; simp
  rw [← hW1]
  clear hW1
  have HQ0 : Hid (OwnQ (W1.alloc (.cells #[] 3)) W1.heap.size 3 (.slice (some ⟨w.heap.size + 1, 0, none⟩) 0 0) 0 ((List.range 0).map cN)) := Lib.hid (by rw [← hwa]; exact OwnQ.of (own_empty2 W1 _ 1))
  have HB0 : Hid (Below W1.heap.size W1 (W1.alloc (.cells #[] 3))) := Lib.hid ((Below.refl _ _).alloc (Nat.le_refl _) _)
  have HWA := Lib.hid hwa
  clear hwa
  go_loopw [2, 11] (fun q i wr => ∃ k : Nat, k ≤ l.length ∧ i = .int .i64 (k : Int) ∧ Hid (OwnQ wr W1.heap.size 3 q k ((List.range k).map cN)) ∧ Hid (Below W1.heap.size W1 wr)) (fun _ i _ => l.length - (intOf i).toNat)
  case atStart => exact ⟨0, Nat.zero_le _, rfl, HQ0, HB0⟩
  case round =>
    clear HQ0 HB0
    obtain ⟨k, hk, rfl, HQ, HB⟩ := hrel
    by_cases hlt : k < l.length
    · have hd : decide ((k : Int) < (l.length : Int)) = true := decide_eq_true (by omega)
      have HNX : Hid ((List.range (k + 1)).map cN = (List.range k).map cN ++ [cN k]) := Lib.hid (by rw [List.range_succ, List.map_append]; rfl)
      obtain ⟨aq, cq, rfl⟩ := HQ.out.slice
      go_wp2_with (at_builtin; refine list_appendQ _ rfl _ _ 54 rfl W1.heap.size 3 i0 (.int .i64 0) 8 Try.underlying54 hi hz0 hz1 hz2 rfl _ _ _ rfl (HQ.out.later ((Below.refl wr.heap.size wr).alloc (Nat.le_refl _) _)) ⟨wr.heap.size, 0, none⟩ 1 (cN k) rfl rfl (by simp [cN]) (by omega) (by omega) (le_alloc HB.out.size _) ?_; intro v5 w5 hown hgrow)
      have HB5 := Lib.hid ((HB.out.alloc HB.out.size (.cells #[cN k] 3)).grown hgrow (le_alloc HB.out.size _) (fun q h => (HQ.out.lt q h).1))
      have HQ5 : Hid (OwnQ w5 W1.heap.size 3 v5 (k + 1) ((List.range (k + 1)).map cN)) := Lib.hid (by rw [HNX.out]; exact hown)
      clear hown hgrow
      go_roundw
      case rel => exact ⟨k + 1, by omega, by go_num, HQ5, HB5⟩
      case measure => simp [intOf]; omega
    · have hd : decide ((k : Int) < (l.length : Int)) = false := decide_eq_false (by omega)
      obtain rfl : k = l.length := by omega
      obtain ⟨wl, rfl⟩ : ∃ wl, wl = wr := ⟨wr, rfl⟩
      have HK1 : Hid (KeptOut base T1 W1 wl) := Lib.hid ⟨HB.out.os, HB.out.tape, HB.out.output, HB.out.size, fun q hq _ => HB.out.block q hq⟩
      have HN1 := Lib.hid (HD.out.later HT.out (HA.out.trans (HB.out.mono HA.out.size)))
      have HR1 : Hid (Rest l X C (List.range l.length)) := Lib.hid ⟨List.nodup_range, fun j hj => List.mem_range.1 hj, fun j hj hn => absurd (List.mem_range.2 hj) hn⟩
      have HP1 := Lib.hid (PartS.all l X C)
      go_wp2_with fail
      go_loopw [2] (fun q wr => ∃ (Q : List Nat) (E : List (List ByteArray)) (us' : List Value), Hid (OwnQ wr W1.heap.size 3 q Q.length (Q.map cN)) ∧ Hid (OwnN fS 1 33 9 wr base T1 (.slice a0 C.length capd) us' E) ∧ Hid (PartS l X C E) ∧ Hid (Rest l X E Q) ∧ Hid (KeptOut base T1 W1 wr)) (fun q wr => 73 * sumAt wr (.slice a0 C.length capd) C.length + lenOf (some q))
      case atStart => exact ⟨List.range l.length, C, us, Lib.hid (by rw [List.length_range]; exact HQ.out), HN1, HP1, HR1, HK1⟩
      case round =>
        obtain ⟨Q, E, us', HQ2, HN2, HP2, HR2, HK2⟩ := hrel
        obtain ⟨wr2, rfl⟩ : ∃ wr2, wr2 = wr := ⟨wr, rfl⟩
        cases Q with
        | nil =>
          have HQ3 : Hid (OwnQ wr2 W1.heap.size 3 u2 0 []) := HQ2
          clear HQ2
          obtain ⟨aq, cq, rfl⟩ := HQ3.out.slice
          have HF : Hid (PruS l X C E) := Lib.hid (HP2.out.ends (fun j hj z hz => HR2.out.2.2 j (by have := HP2.out.length; have := HCL.out; omega) (by simp) z hz))
          have HK9 : Hid (KeptOut base T1 w wr2) := Lib.hid ((⟨HA.out.os, HA.out.tape, HA.out.output, HA.out.size, fun q hq _ => HA.out.block q hq⟩ : KeptOut base T1 w W1).trans HK2.out)
          go_wp2_with fail
          go_end0
          exact ⟨rfl, E, us', HN2.out, HF.out, HK9.out⟩
        | cons s Q' =>
          have HQ3 : Hid (OwnQ wr2 W1.heap.size 3 u2 (Q'.length + 1) (cN s :: Q'.map cN)) := HQ2
          clear HQ2
          obtain ⟨gq, oq, cq, rfl⟩ := HQ3.out.form (by omega)
          have hsl9 := HR2.out.2.1 s (List.mem_cons_self ..)
          have hq72 : Q'.length + 1 ≤ l.length := nodup_le l.length (s :: Q') HR2.out.1 HR2.out.2.1
          have c0 : wr2.cell? ⟨gq, oq, none⟩ = some (.int .i64 (s : Int)) := OwnQ.head HQ3.out (by omega)
          have hcq : Q'.length + 1 ≤ cq := by
            obtain ⟨-, -, a9, c9, e9, hcap, -⟩ := HQ3.out.reads (by omega)
            injection e9 with _ _ e9
            subst e9
            exact hcap.2.1
          have hcq1 : (1 : Int) ≤ ((Q'.length + 1 : Nat) : Int) := by omega
          have hcq2 : ((Q'.length + 1 : Nat) : Int) ≤ (cq : Int) := by omega
          have hcq3 : (1 : Int) ≤ (Q'.length : Int) + 1 := by omega
          have hcq4 : (Q'.length : Int) + 1 ≤ (cq : Int) := by omega
          have hgt : decide ((0 : Int) < (Q'.length : Int) + 1) = true := decide_eq_true (by omega)
          have HBB := Lib.hid ((HK2.out.block w.heap.size (by have := HWA.out; omega) (.inr HT.out)).trans HBK.out)
          have x0 := Joins.cell_of_block HBB.out 0
          have x1 := Joins.cell_of_block HBB.out 1
          have x2 := Joins.cell_of_block HBB.out 2
          have x0 : wr2.cell? ⟨w.heap.size, 0, none⟩ = some (.slice as0 l.length cs) := x0
          have x1 : wr2.cell? ⟨w.heap.size, 1, none⟩ = some (.slice am nm cm) := x1
          have x2 : wr2.cell? ⟨w.heap.size, 2, none⟩ = some (.slice a0 C.length capd) := x2
          have HKw : Hid (KeptOut base T1 w wr2) := Lib.hid ((⟨HA.out.os, HA.out.tape, HA.out.output, HA.out.size, fun q hq _ => HA.out.block q hq⟩ : KeptOut base T1 w W1).trans HK2.out)
          have HEC := Lib.hid HP2.out.length
          have hsE : s < E.length := by have := HEC.out; have := HCL.out; omega
          have HST := Lib.hid (HSTR.out wr2 E us' s hsl9 HEC.out (HP2.out.small HM.out) HKw.out HN2.out)
          have HP3 := Lib.hid (HP2.out.strike s (by have := HCL.out; omega))
          have HSS : Hid (∀ m : List ByteArray, sumL (E.set s m) + (E.getD s []).length = sumL E + m.length) := Lib.hid (fun m => sumL_set E s m hsE)
          have HSU := Lib.hid (sumAt_is HN2.out C.length HEC.out)
          have HRS : Hid (∀ Q3 : List Nat, Q3.Nodup → (∀ j ∈ Q3, j < l.length) → (∀ j ∈ Q', j ∈ Q3) → (∀ u ∈ meetS X s, u.2.1 ∈ Q3) → Rest l X (E.set s ((E.getD s []).filter (okX l X E s))) Q3) := Lib.hid (fun Q3 h1 h2 h3 h4 => rest_struck HXS.out hsE HR2.out h1 h2 h3 h4)
          have HRN := Lib.hid (fun h => rest_same hsE HR2.out h)
          obtain ⟨FL, hFL⟩ : ∃ FL, FL = (E.getD s []).filter (okX l X E s) := ⟨_, rfl⟩
          rw [← hFL] at HST HP3 HRS HRN
          have HE2C : Hid ((E.set s FL).length = C.length) := Lib.hid (by rw [List.length_set]; exact HEC.out)
          obtain ⟨t, ht⟩ : ∃ t, t = decide (FL.length < (E.getD s []).length) := ⟨_, rfl⟩
          rw [← ht] at HST
          have HT9 := Lib.hid ht
          have hTw := HT.out
          have hwa := HWA.out
          have hQN := HR2.out.1
          rw [List.nodup_cons] at hQN
          have HQN := Lib.hid hQN.2
          have HQI : Hid (∀ j ∈ Q', j < l.length) := Lib.hid (fun j hj => HR2.out.2.1 j (List.mem_cons_of_mem _ hj))
          clear ht hFL hQN
          go_upto_region 9 with fail
          go_cut [2] (fun q wx => ∃ (aq : Option Addr) (c2 : Nat), q = .slice aq Q'.length c2 ∧ wx = wr2 ∧ Hid (OwnQ wr2 W1.heap.size 3 (.slice aq Q'.length c2) Q'.length (Q'.map cN)))
          case first =>
            by_cases h1 : cq = 1
            · subst h1
              obtain ⟨e1, e2, h3⟩ := HQ3.out.tail1
              have HQ5 : Hid (OwnQ wr2 W1.heap.size 3 (.slice (some ⟨gq, oq, none⟩) Q'.length 0) Q'.length (Q'.map cN)) := Lib.hid (by rw [e2, e1]; exact h3)
              have HE1 := Lib.hid e1
              clear e1 e2 h3
              go_wp2_with fail
              go_meet
              exact ⟨_, _, by rw [HE1.out], rfl, HQ5⟩
            · have HQ5 := Lib.hid HQ3.out.tail
              have h2 : ¬ (1 : Int) = (cq : Int) := by omega
              have h3 : ¬ (cq : Int) = 1 := by omega
              go_wp2_with fail
              go_meet
              exact ⟨_, _, rfl, rfl, HQ5⟩
          case rest =>
            obtain ⟨aq, c2, rfl, rfl, HQ4⟩ := hcut
            obtain ⟨wr2, rfl⟩ : ∃ x, x = wc := ⟨wc, rfl⟩
            have hk9 := HK2.out.size
            cases t with
            | false =>
              have HLT : Hid (¬ FL.length < (E.getD s []).length) := Lib.hid (fun h => by have h9 := HT9.out; rw [decide_eq_true h] at h9; cases h9)
              obtain ⟨hE9, hR9⟩ := HRN.out HLT.out
              have HE9 := Lib.hid hE9
              have HR9 := Lib.hid hR9
              clear hE9 hR9
              go_wp2_with (go_at_call 40; refine HST.out.mono ?_; rintro e w6 ⟨rfl, ⟨us6, n6⟩, k6⟩; rw [HE9.out] at n6; have HN6 := Lib.hid n6; have HK6 := Lib.hid k6; clear n6 k6)
              have HQ6 : Hid (OwnQ w6 W1.heap.size 3 (.slice aq Q'.length c2) Q'.length (Q'.map cN)) := Lib.hid (HQ4.out.kept fun q e => HK6.out.block q (HQ4.out.lt q e).2 (.inr (by have := (HQ4.out.lt q e).1; omega)))
              have HS6 := Lib.hid (sumAt_is HN6.out C.length HEC.out)
              go_roundw
              case rel => exact ⟨Q', E, us6, HQ6, HN6, HP2, HR9, Lib.hid (HK2.out.trans HK6.out)⟩
              case measure =>
                show 73 * sumAt _ _ _ + lenOf (some (.slice _ Q'.length _)) < 73 * sumAt _ _ _ + lenOf (some (.slice _ (Q'.length + 1) _))
                rw [HS6.out, HSU.out]
                simp only [lenOf]
                omega
            | true =>
              have HLT : Hid (FL.length < (E.getD s []).length) := Lib.hid (of_decide_eq_true HT9.out.symm)
              obtain ⟨gm, aj, cj, eam, enm, hrow⟩ := HMR.out s hsl9
              have HRW := Lib.hid hrow
              have HMI : Hid (∀ u ∈ meetS X s, u.2.1 < l.length) := Lib.hid (fun u hu => (meet_facts (HXF.out s hsl9) hu).2)
              have HM72 := Lib.hid (HMN.out s)
              obtain ⟨M, hM⟩ : ∃ M, M = meetS X s := ⟨_, rfl⟩
              rw [← hM] at HRW HRS HMI HM72
              have hm72 := HM72.out
              have HEAM := Lib.hid eam
              have HENM := Lib.hid enm
              have hs1 : (s : Int) < (l.length : Int) := by omega
              have hs0 : (0 : Int) ≤ (s : Int) := by omega
              clear hrow hM eam enm
              go_wp2_with (go_at_call 40; refine HST.out.mono ?_; rintro e w6 ⟨rfl, ⟨us6, n6⟩, k6⟩; have HN6 := Lib.hid n6; have HK6 := Lib.hid k6; clear n6 k6; have HB6 := Lib.hid ((HK6.out.block w.heap.size (by omega) (.inr HT.out)).trans HBB.out); clear x0 x1 x2; have x1 : w6.cell? ⟨w.heap.size, 1, none⟩ = some (.slice (some ⟨gm, 0, none⟩) l.length cm) := (by rw [← HEAM.out, ← HENM.out]; exact Joins.cell_of_block HB6.out 1); have HKW6 := Lib.hid (HKw.out.trans HK6.out); obtain ⟨y1, -⟩ := HRW.out w6 HKW6.out)
              have HQ6 : Hid (OwnQ w6 W1.heap.size 3 (.slice aq Q'.length c2) Q'.length (Q'.map cN)) := Lib.hid (HQ4.out.kept fun q e => HK6.out.block q (HQ4.out.lt q e).2 (.inr (by have := (HQ4.out.lt q e).1; omega)))
              have HS6 := Lib.hid (sumAt_is HN6.out C.length HE2C.out)
              have HK61 := Lib.hid (HK2.out.trans HK6.out)
              clear x1 y1
              go_loopw [2, 37] (fun q i wr => ∃ (k : Nat) (Q3 : List Nat), k ≤ M.length ∧ i = .int .i64 (k : Int) ∧ Hid (OwnQ wr W1.heap.size 3 q Q3.length (Q3.map cN)) ∧ Hid (Q3.Nodup ∧ (∀ j ∈ Q3, j < l.length) ∧ (∀ j ∈ Q', j ∈ Q3) ∧ ∀ u ∈ M.take k, u.2.1 ∈ Q3) ∧ Hid (KeptOut base T1 W1 wr) ∧ Hid (KeptOut base T1 w wr) ∧ Hid (OwnN fS 1 33 9 wr base T1 (.slice a0 C.length capd) us6 (E.set s FL))) (fun _ i _ => M.length - (intOf i).toNat)
              case atStart => exact ⟨0, Q', Nat.zero_le _, rfl, HQ6, Lib.hid ⟨HQN.out, HQI.out, fun j h => h, fun u hu => by cases hu⟩, HK61, HKW6, HN6⟩
              case round =>
                clear HQ6 HK61 HKW6
                obtain ⟨k, Q3, hk, rfl, HQ7, HC7, HK7, HKW7, HN7⟩ := hrel
                obtain ⟨wr3, rfl⟩ : ∃ x, x = wr := ⟨wr, rfl⟩
                have hk7 := HK7.out.size
                have hq3 : Q3.length ≤ l.length := nodup_le l.length Q3 HC7.out.1 HC7.out.2.1
                obtain ⟨a7, c7, rfl⟩ := HQ7.out.slice
                by_cases hlt : k < M.length
                · have hd : decide ((k : Int) < (M.length : Int)) = true := decide_eq_true (by omega)
                  obtain ⟨b, ebj, z0, z1, z2⟩ := (HRW.out wr3 HKW7.out).2 k hlt
                  have HMT : Hid (∀ u ∈ M.take (k + 1), u ∈ M.take k ∨ u = M.getD k (0, 0, 0)) := Lib.hid (fun u hu => by
                    rw [take_nextN M k (0, 0, 0) hlt] at hu
                    rcases List.mem_append.1 hu with h | h
                    · exact .inl h
                    · exact .inr (List.mem_singleton.1 h))
                  have HMK := Lib.hid (HMI.out (M.getD k (0, 0, 0)) (by simp [List.getD, hlt]))
                  obtain ⟨⟨at0, sl, at1⟩, hy⟩ : ∃ y, y = M.getD k (0, 0, 0) := ⟨_, rfl⟩
                  rw [← hy] at z0 z1 z2 HMT HMK
                  simp only at z0 z1 z2 HMK
                  subst ebj
                  have hsl := HMK.out
                  have HA7 : Hid (Below wr3.heap.size wr3 (wr3.alloc (.cells #[.int .i64 (at0 : Int), .int .i64 (sl : Int), .int .i64 (at1 : Int)] 66))) := Lib.hid ((Below.refl _ _).alloc (Nat.le_refl _) _)
                  have HQ8 := Lib.hid (HQ7.out.later HA7.out)
                  have HN8 := Lib.hid (HN7.out.later (by omega) HA7.out)
                  have HK8 : Hid (KeptOut base T1 W1 (wr3.alloc (.cells #[.int .i64 (at0 : Int), .int .i64 (sl : Int), .int .i64 (at1 : Int)] 66))) := Lib.hid (HK7.out.grow (World.grownBy_alloc wr3 _ none) (fun q e => by cases e))
                  have HKW8 : Hid (KeptOut base T1 w (wr3.alloc (.cells #[.int .i64 (at0 : Int), .int .i64 (sl : Int), .int .i64 (at1 : Int)] 66))) := Lib.hid (HKW7.out.grow (World.grownBy_alloc wr3 _ none) (fun q e => by cases e))
                  have HCT := Lib.hid (contN_any Q3 sl (by omega) (.slice a7 Q3.length c7) _ (by have h9 := HQ8.out.reads (by omega); exact h9))
                  obtain ⟨t, ht⟩ : ∃ t, t = decide (sl ∈ Q3) := ⟨_, rfl⟩
                  rw [← ht] at HCT
                  have HTT := Lib.hid ht
                  clear ht hy
                  cases t with
                  | true =>
                    have hin := of_decide_eq_true HTT.out.symm
                    have HC9 : Hid (Q3.Nodup ∧ (∀ j ∈ Q3, j < l.length) ∧ (∀ j ∈ Q', j ∈ Q3) ∧ ∀ u ∈ M.take (k + 1), u.2.1 ∈ Q3) := Lib.hid ⟨HC7.out.1, HC7.out.2.1, HC7.out.2.2.1, fun u hu => by
                      rcases HMT.out u hu with h | h
                      · exact HC7.out.2.2.2 u h
                      · rw [h]; exact hin⟩
                    clear hin
                    go_wp2_with (go_at_call 41; refine HCT.out.mono ?_; rintro e w8 ⟨rfl, rfl⟩)
                    go_roundw
                    case rel => exact ⟨k + 1, Q3, by omega, by go_num, HQ8, HC9, HK8, HKW8, HN8⟩
                    case measure => simp [intOf]; omega
                  | false =>
                    have hin := of_decide_eq_false HTT.out.symm
                    have HC9 : Hid ((Q3 ++ [sl]).Nodup ∧ (∀ j ∈ Q3 ++ [sl], j < l.length) ∧ (∀ j ∈ Q', j ∈ Q3 ++ [sl]) ∧ ∀ u ∈ M.take (k + 1), u.2.1 ∈ Q3 ++ [sl]) := Lib.hid ⟨List.nodup_append.2 ⟨HC7.out.1, by simp, fun x hx y hy e => hin (by rw [List.mem_singleton] at hy; rw [← hy, ← e]; exact hx)⟩, fun j hj => by
                      rcases List.mem_append.1 hj with h | h
                      · exact HC7.out.2.1 j h
                      · rw [List.mem_singleton.1 h]; exact hsl, fun j hj => List.mem_append_left _ (HC7.out.2.2.1 j hj), fun u hu => by
                      rcases HMT.out u hu with h | h
                      · exact List.mem_append_left _ (HC7.out.2.2.2 u h)
                      · rw [h]; simp⟩
                    clear hin
                    obtain ⟨WA, hWA⟩ : ∃ WA, WA = wr3.alloc (.cells #[.int .i64 (at0 : Int), .int .i64 (sl : Int), .int .i64 (at1 : Int)] 66) := ⟨_, rfl⟩
                    have HWZ : Hid (WA.heap.size = wr3.heap.size + 1) := Lib.hid (by rw [hWA]; simp)
                    have HWB : Hid (WA.cell? ⟨wr3.heap.size, 1, none⟩ = some (.int .i64 (sl : Int))) := Lib.hid (by rw [hWA]; simp)
                    go_wp2_with (first | (go_at_call 41; refine HCT.out.mono ?_; rintro e w8 ⟨rfl, rfl⟩; rw [← hWA]; rw [← hWA] at HQ8 HN8 HK8 HKW8; have c8 := HWB.out; clear hWA) | (at_builtin; refine list_appendQ _ rfl _ _ 54 rfl W1.heap.size 3 i0 (.int .i64 0) 8 Try.underlying54 hi hz0 hz1 hz2 rfl _ _ _ rfl (HQ8.out.later ((Below.refl WA.heap.size WA).alloc (Nat.le_refl _) _)) ⟨WA.heap.size, 0, none⟩ 1 (cN sl) rfl rfl (by simp [cN]) (by omega) (by omega) (le_alloc HK8.out.size _) ?_; intro v9 w9 hown hgrow))
                    have HG9 := Lib.hid hgrow
                    have HQL : Hid (∀ q, (Value.slice a7 Q3.length c7).ownBlock = some q → W1.heap.size ≤ q) := Lib.hid (fun q e => (HQ8.out.lt q e).1)
                    have HZ9 := HWZ.out
                    have HQ9 : Hid (OwnQ w9 W1.heap.size 3 v9 (Q3 ++ [sl]).length ((Q3 ++ [sl]).map cN)) := Lib.hid (by
                      rw [List.length_append, List.map_append]
                      exact hown)
                    have HN9 := Lib.hid ((HN8.out.later (by omega) ((Below.refl WA.heap.size WA).alloc (Nat.le_refl _) (.cells #[cN sl] 3))).grow (by have := le_alloc (o := .cells #[cN sl] 3) (Nat.le_refl WA.heap.size); omega) HG9.out (fun q e => by have := HQL.out q e; omega))
                    have HK9 := Lib.hid ((HK8.out.grow (World.grownBy_alloc WA (.cells #[cN sl] 3) none) (fun q e => by cases e)).grow HG9.out HQL.out)
                    have HKW9 := Lib.hid ((HKW8.out.grow (World.grownBy_alloc WA (.cells #[cN sl] 3) none) (fun q e => by cases e)).grow HG9.out (fun q e => by have := HQL.out q e; omega))
                    clear hown hgrow HZ9
                    go_roundw
                    case rel => exact ⟨k + 1, Q3 ++ [sl], by omega, by go_num, HQ9, HC9, HK9, HKW9, HN9⟩
                    case measure => simp [intOf]; omega
                · have hd : decide ((k : Int) < (M.length : Int)) = false := decide_eq_false (by omega)
                  have HR9 := Lib.hid (HRS.out Q3 HC7.out.1 HC7.out.2.1 HC7.out.2.2.1 (fun u hu => HC7.out.2.2.2 u (by rw [List.take_of_length_le (by omega)]; exact hu)))
                  have HS7 := Lib.hid (sumAt_is HN7.out C.length HE2C.out)
                  have HSF := Lib.hid (HSS.out FL)
                  have HLL := HLT.out
                  go_wp2_with fail
                  go_roundw
                  case rel => exact ⟨Q3, E.set s FL, us6, HQ7, HN7, HP3, HR9, HK7⟩
                  case measure =>
                    show 73 * sumAt _ _ _ + lenOf (some (.slice _ Q3.length _)) < 73 * sumAt _ _ _ + lenOf (some (.slice _ (Q'.length + 1) _))
                    rw [HS7.out, HSU.out]
                    have h9 := HSF.out
                    simp only [lenOf]
                    omega
end Go.Proofs.Ytmhgejljjjmejaa
