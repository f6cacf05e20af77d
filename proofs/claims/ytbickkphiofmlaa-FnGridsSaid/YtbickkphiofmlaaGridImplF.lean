/-
  The program's contracts of chapter 7, sixth part: slices.Chunk, slices.Collect at rows of bytes.
-/
import Derived.Test.YtbickkphiofmlaaProg
import Derived.RangeFuncNested
import Derived.RangeFuncBound
import Derived.RangeFuncCalls
import Derived.RangeFuncLeaves
import Derived.RangeFuncBox
import Derived.Shelf.Abstract
import Derived.Shelf.RegionOpen
import Derived.WalkKit
import Derived.OwnWalkIn
import Derived.TacticsInMore
import Derived.LoopNIn
import Derived.LoopIn
import Derived.Maps.AppendAt
import Derived.Lib.Hide
namespace Go.Proofs.Ytbickkphiofmlaa
open Go.RowKit Go.Shelf

attribute [local go_sem] Oper.semAt_some

set_option maxRecDepth 100000 in
set_option maxHeartbeats 2000000 in
/-- What Chunk's iterator hands over: the rows of C bytes, one after the other. -/
theorem chunk1_in (n : Nat) (hn : 1 ≤ n) (l Bs Bn n₀ b R C cap : Nat) (hC : 1 ≤ C) (hRC : R * C ≤ 36) (hcap : R * C ≤ cap) (hcap2 : cap ≤ 9223372036854775807) (hb1 : Bs < n₀) (hb2 : Bn < n₀) (J Jx : List Nat → World → Prop)
    (hY : ∀ pre x W, J pre W → pre.length < R → YieldAt Fence.wide (n - 1) Try.prog l #[.slice (some ⟨b, x * C, none⟩) C C] W fun e W' =>
      (e = .returned (.bool true) ∧ J (pre ++ [x]) W' ∧ Below n₀ W W') ∨ (e = .returned (.bool false) ∧ Jx (pre ++ [x]) W'))
    (W : World) (hBs : W.cell? ⟨Bs, 0, none⟩ = some (.slice (some ⟨b, 0, none⟩) (R * C) cap)) (hBn : W.cell? ⟨Bn, 0, none⟩ = some (.int .i64 (C : Int))) (hJ : AbidesFrom W.heap.size J) (h0 : J [] W) :
    CallsIn Fence.wide n Try.prog 48 #[.func (.yield l) #[] #[], .pointer (some ⟨Bs, 0, none⟩), .pointer (some ⟨Bn, 0, none⟩)] W fun e W' => (∃ v, e = .returned v) ∧
      ((∃ ys, ys = List.range R ∧ J ys W') ∨ (∃ pre, (∃ k, k ≤ R ∧ pre = List.range k) ∧ Jx pre W')) := by
  obtain ⟨N, hN⟩ : ∃ N, N = R * C := ⟨_, rfl⟩
  rw [← hN] at hRC hcap hBs
  have HN := Lib.hid hN
  clear hN
  refine callsIn_of_wp Try.func48 rfl trivial ?_ rfl
  simp only [Try.ntmps48, List.size_toArray, List.length_cons, List.length_nil, Nat.reduceAdd, Nat.reduceSub, Array.replicate_succ, Array.replicate_zero, List.push_toArray, List.append_toArray, List.nil_append, List.cons_append]
  gi_wp2
  gi_loopw [4] (fun i wr => ∃ k m : Nat, k ≤ R ∧ Hid (m = k * C) ∧ i = .int .i64 m ∧ J (List.range k) wr ∧ Below n₀ W wr)
    (fun i _ => N - (intOf i).toNat)
  case atStart => exact ⟨0, 0, Nat.zero_le _, Lib.hid (by simp), rfl, h0, Below.refl _ _⟩
  case round =>
    obtain ⟨k, m, hk, HM, rfl, hJs, hnx⟩ := hrel
    have hc1 := (hnx.cell (p := ⟨Bs, 0, none⟩) hb1).trans hBs
    have hc2 := (hnx.cell (p := ⟨Bn, 0, none⟩) hb2).trans hBn
    by_cases hlt : k < R
    · have hmC : m + C ≤ N := by rw [HM.out, HN.out, ← Nat.succ_mul]; exact Nat.mul_le_mul_right C hlt
      have hmN : m < N := by omega
      have q1 : (m : Int) ≤ (N : Int) := by omega
      have q2 : (N : Int) ≤ (cap : Int) := by omega
      have q3 : ¬ m = cap := by omega
      have q4 : (m : Int) + (C : Int) ≤ (cap : Int) := by omega
      have q5 : (m : Int) ≤ (m : Int) + (C : Int) := by omega
      gi_wp2
      gi_region
      have hJd := hJ _ wr wr.drew none hJs ⟨rfl, rfl, rfl, Nat.le_refl _, fun _ _ _ => rfl⟩ (fun r e => by cases e)
      have hnd : Below n₀ W wr.drew := hnx.drew
      obtain ⟨V, hV⟩ : ∃ V, V = wr.drew := ⟨_, rfl⟩
      have hc3 := (hnd.cell (p := ⟨Bs, 0, none⟩) hb1).trans hBs
      have hc4 := (hnd.cell (p := ⟨Bn, 0, none⟩) hb2).trans hBn
      rw [← hV] at hJd hnd hc3 hc4 ⊢
      clear hV hc1 hc2 hnx hJs
      obtain ⟨fn, tmps, assign, body, hy, hR⟩ := hY _ k V hJd (by rw [List.length_range]; exact hlt)
      rw [← HM.out] at hy
      gi_wp2
      refine hR.mono ?_
      rintro e W3 (⟨rfl, hJ3, hk3⟩ | ⟨rfl, hJx3⟩)
      · have hc5 := (hk3.cell (p := ⟨Bn, 0, none⟩) hb2).trans hc4
        gi_wp2
        go_roundw
        case rel => exact ⟨k + 1, m + C, by omega, Lib.hid (by rw [HM.out, Nat.succ_mul]), by simp, by rw [List.range_succ]; exact hJ3, hnd.trans hk3⟩
        case measure => simp [intOf]; omega
      · gi_wp2
        refine bodyPost_ret (results_none rfl _ _ _) rfl ?_
        exact ⟨⟨_, rfl⟩, .inr ⟨_, ⟨k + 1, by omega, List.range_succ.symm⟩, hJx3⟩⟩
    · have hk' : k = R := by omega
      have hm' : m = N := by rw [HM.out, HN.out, hk']
      subst hk'
      subst hm'
      gi_wp2
      go_end0
      exact ⟨⟨_, rfl⟩, .inl ⟨_, rfl, hJs⟩⟩

/-- Row number x of the block b. -/
def chunkV (b C x : Nat) : Value := .slice (some ⟨b, x * C, none⟩) C C
theorem chunk_stops (n : Nat) (hn : 1 ≤ n) (Bs Bn n₀ b R C cap : Nat) (hC : 1 ≤ C) (hRC : R * C ≤ 36) (hcap : R * C ≤ cap) (hcap2 : cap ≤ 9223372036854775807) (hb1 : Bs < n₀) (hb2 : Bn < n₀) (w : World) (hn₀ : n₀ ≤ w.heap.size)
    (hBs : w.cell? ⟨Bs, 0, none⟩ = some (.slice (some ⟨b, 0, none⟩) (R * C) cap)) (hBn : w.cell? ⟨Bn, 0, none⟩ = some (.int .i64 (C : Int))) :
    SeqStopsK Fence.wide n Try.prog 48 #[.pointer (some ⟨Bs, 0, none⟩), .pointer (some ⟨Bn, 0, none⟩)] (fun x : Nat => #[chunkV b C x]) (Below n₀) (fun ys => ys = List.range R) (fun pre => ∃ k, k ≤ R ∧ pre = List.range k) R w := fun l J Jx W hW hJ _ hY h0 =>
  chunk1_in n hn l Bs Bn n₀ b R C cap hC hRC hcap hcap2 hb1 hb2 J Jx hY W ((hW.cell (p := ⟨Bs, 0, none⟩) (Nat.lt_of_lt_of_le hb1 hn₀)).trans hBs) ((hW.cell (p := ⟨Bn, 0, none⟩) (Nat.lt_of_lt_of_le hb2 hn₀)).trans hBn) hJ h0

theorem info_row : (Try.prog.info? 22).map (fun i => (i.zero, i.size, i.bytes)) = some (some (.slice none 0 0), 1, 24) := by kernel_rfl
set_option maxRecDepth 100000 in
set_option maxHeartbeats 2000000 in
/-- slices.AppendSeq(nil, slices.Chunk(..)): a row that owns the chunks, in their order. -/
theorem appseq_in (n : Nat) (hn : 3 ≤ n) (Bs Bn b R C cap : Nat) (hC : 1 ≤ C) (hR0 : 1 ≤ R) (hRC : R * C ≤ 36) (hR : R ≤ 36) (hcap : R * C ≤ cap) (hcap2 : cap ≤ 9223372036854775807) (w : World) (hb1 : Bs < w.heap.size) (hb2 : Bn < w.heap.size)
    (hBs : w.cell? ⟨Bs, 0, none⟩ = some (.slice (some ⟨b, 0, none⟩) (R * C) cap)) (hBn : w.cell? ⟨Bn, 0, none⟩ = some (.int .i64 (C : Int))) :
    CallsIn Fence.wide n Try.prog 47 #[.slice none 0 0, .func (.func 48) #[] #[.pointer (some ⟨Bs, 0, none⟩), .pointer (some ⟨Bn, 0, none⟩)]] w fun e W' =>
      ∃ v, e = .returned v ∧ W'.ownsRow w.heap.size 22 1 v R ((List.range R).map (chunkV b C)) ∧ Below w.heap.size w W' := by
  have h1 : 1 ≤ n := by omega
  obtain ⟨i0, hi, hz0, hz1, hz2⟩ := info_parts info_row
  refine callsIn_of_wp_marks Try.func47 rfl trivial ?_ rfl
  simp only [Try.ntmps47, List.size_toArray, List.length_cons, List.length_nil, Nat.reduceAdd, Nat.reduceSub, Array.replicate_succ, Array.replicate_zero, List.push_toArray, List.append_toArray, List.nil_append, List.cons_append]
  gi_wp2
  have bO := Boxed.new w 54 (.slice none 0 0)
  have hB0 : Below w.heap.size w (w.alloc (.cells #[.slice none 0 0] 54)) := (Below.refl _ w).alloc (Nat.le_refl _) _
  refine wpIn_rangeFunc_ownG rfl h1 (gf := 48) (lb := #[.pointer (some ⟨Bs, 0, none⟩), .pointer (some ⟨Bn, 0, none⟩)]) rfl trivial (enters_of Try.func48 (by kernel_rfl) rfl)
    (chunk_stops (n - 1) (by omega) Bs Bn w.heap.size b R C cap hC hRC hcap hcap2 hb1 hb2 _ (by simp) ((hB0.cell (p := ⟨Bs, 0, none⟩) hb1).trans hBs) ((hB0.cell (p := ⟨Bn, 0, none⟩) hb2).trans hBn)) belowK_t (belowK_b (by simp)) (Below.refl _ _) (fun _ => rfl)
    (fun pre W => (∃ v, Boxed W w.heap.size 54 v ∧ W.ownsRow w.heap.size 22 1 v pre.length (pre.map (chunkV b C)) ∧ (v = .slice none 0 0 ↔ pre = [])) ∧ Below w.heap.size w W)
    (fun _ _ _ => False)
    (OwnFrom.and (Own.from (holdsRow_own w.heap.size w.heap.size 54 22 1 (fun pre => pre.length) (fun pre => pre.map (chunkV b C)) (fun pre v => v = .slice none 0 0 ↔ pre = [])) _) (ownFrom_below (Nat.le_refl _) (by simp)))
    (fun _ _ _ _ _ hs _ _ => hs)
    ⟨⟨_, bO, World.ownsRow_nil _ _ _ _, by simp⟩, hB0⟩
    (fun x => { tmps := #[.slice none 0 0, .func (.func 48) #[] #[.pointer (some ⟨Bs, 0, none⟩), .pointer (some ⟨Bn, 0, none⟩)], .pointer (some ⟨w.heap.size, 0, none⟩), undef, .slice none 0 0, .slice (some ⟨b, x * C, none⟩) C C, .func (.func 48) #[] #[.pointer (some ⟨Bs, 0, none⟩), .pointer (some ⟨Bn, 0, none⟩)], .slice (some ⟨b, x * C, none⟩) C C, undef, undef, undef, undef, undef], defers := [] }) ?assign ?body ?done ?stop
  case assign =>
    intro l x W K hK
    gi_wp2
    exact hK
  case body =>
    rintro l pre x W ⟨⟨v, hv, hrow, hnil⟩, hB⟩ hlt
    have hc := hv.cell
    gi_wp2_with (gi_at_builtin; refine wpListIn_append_own _ rfl _ _ 54 rfl w.heap.size 22 i0 (.slice none 0 0) 1 24 Try.underlying54 hi hz0 hz1 hz2 rfl (by decide) _ _ _ rfl (hrow.alloc _) ⟨W.heap.size, 0, none⟩ 1 1 [.slice (some ⟨b, x * C, none⟩) C C] rfl rfl (cell_one_new _ _ _) (by simp [Value.oneCell']) (by unfold maxLen; omega) (by omega) (by have := hB.size; simp; omega) ?_; intro v' w1 hown' hgrow _; obtain ⟨g', cap', rfl⟩ := ownsRow_succ hown'; obtain ⟨hv1, hv2, hr2, hk2, hb2⟩ := hv.appended (by decide) hrow hB.size (Nat.le_refl _) hown' hgrow; have hc1 := hv1.cell; have hf1 := hv1.frozen)
    exact ⟨hk2.from _, hb2, ⟨_, hv2, by rw [List.length_append, List.map_append]; exact hr2, by simp⟩, hB.trans hb2⟩
  case done =>
    rintro D ys W hD rfl ⟨⟨v, hv, hrow, hnil⟩, hB⟩ hK
    have hc := hv.cell
    gi_wp2
    refine ⟨by simp, .inl ⟨_, _, rfl, run_takeDeferred hK, ?_⟩⟩
    rw [List.length_range] at hrow
    exact ⟨_, results_tmp rfl _ _ _, v, rfl, ownsRow_putObj hrow _ hK rfl, hB.trans (belowK_b (w := w) (Nat.le_refl _) W D _ _ (by simp at hD; omega) hK rfl rfl)⟩
  case stop =>
    rintro D c pre W _ _ h _
    exact h.elim
/-- slices.Chunk of a row of bytes. -/
theorem chunk_any (a : Option Addr) (m cap C : Nat) (hC : 1 ≤ C) (w : World) :
    Calls Try.prog 33 #[.slice a m cap, .int .i64 (C : Int)] w fun e w' => e = .returned (.func (.func 48) #[] #[.pointer (some ⟨w.heap.size, 0, none⟩), .pointer (some ⟨w.heap.size + 1, 0, none⟩)]) ∧ w' = (w.alloc (.cells #[.slice a m cap] 22)).alloc (.cells #[.int .i64 (C : Int)] 3) := by
  have hlt : decide ((C : Int) < 1) = false := decide_eq_false (by omega)
  go_enter Try.func33, Try.ntmps33
  go_wp2
  go_ret
  exact ⟨rfl, rfl⟩
theorem collect_any (Bs Bn b R C cap : Nat) (hC : 1 ≤ C) (hR0 : 1 ≤ R) (hRC : R * C ≤ 36) (hR : R ≤ 36) (hcap : R * C ≤ cap) (hcap2 : cap ≤ 9223372036854775807) (w : World) (hb1 : Bs < w.heap.size) (hb2 : Bn < w.heap.size)
    (hBs : w.cell? ⟨Bs, 0, none⟩ = some (.slice (some ⟨b, 0, none⟩) (R * C) cap)) (hBn : w.cell? ⟨Bn, 0, none⟩ = some (.int .i64 (C : Int))) :
    Calls Try.prog 32 #[.func (.func 48) #[] #[.pointer (some ⟨Bs, 0, none⟩), .pointer (some ⟨Bn, 0, none⟩)]] w fun e W' =>
      ∃ v, e = .returned v ∧ W'.ownsRow w.heap.size 22 1 v R ((List.range R).map (chunkV b C)) ∧ Below w.heap.size w W' := by
  have HS : Hid (Calls Try.prog 47 #[.slice none 0 0, .func (.func 48) #[] #[.pointer (some ⟨Bs, 0, none⟩), .pointer (some ⟨Bn, 0, none⟩)]] w _) := Lib.hid (callsIn_wide.1 (appseq_in 10 (by decide) Bs Bn b R C cap hC hR0 hRC hR hcap hcap2 w hb1 hb2 hBs hBn))
  clear hBs hBn
  go_enter Try.func32, Try.ntmps32
  go_wp2_with (go_at_call 47; refine HS.out.mono ?_; rintro e w1 ⟨v, rfl, ho, hb⟩; have HO := Lib.hid ho; have HB := Lib.hid hb; clear ho hb)
  go_ret
  exact ⟨_, rfl, HO.out, HB.out⟩
end Go.Proofs.Ytbickkphiofmlaa
