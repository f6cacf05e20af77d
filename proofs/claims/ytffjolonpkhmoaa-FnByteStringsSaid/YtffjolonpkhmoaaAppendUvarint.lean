/-
  Contract of spec.AppendUvarint: a new slice that reads as the old one followed by the varint; nothing that was there is changed.
-/
import Derived.Test.YtffjolonpkhmoaaBytes
import Derived.Test.YtffjolonpkhmoaaUv
import Derived.WalkKit
import Derived.WalkLawsBesides
namespace Go.Proofs.Ytffjolonpkhmoaa
open Go.RowKit

theorem lin_yes (n lo hi : Int) (h1 : lo ≤ n) (h2 : n ≤ hi) (w : World) :
    Calls Try.prog 54 #[.int .i64 n, .int .i64 lo, .int .i64 hi] w fun e w' => e = .returned (.bool true) ∧ w = w' := by
  go_enter Try.func54, Try.ntmps54
  go_wp2
  go_ret
  exact ⟨rfl, rfl⟩
theorem lin_no (n lo hi : Int) (h : ¬ (lo ≤ n ∧ n ≤ hi)) (w : World) :
    Calls Try.prog 54 #[.int .i64 n, .int .i64 lo, .int .i64 hi] w fun e w' => e = .returned (.bool false) ∧ w = w' := by
  by_cases h1 : lo ≤ n
  · have hd : decide (n ≤ hi) = false := decide_eq_false (by omega)
    clear h
    go_enter Try.func54, Try.ntmps54
    go_wp2
    go_ret
    exact ⟨rfl, rfl⟩
  · have hd : decide (lo ≤ n) = false := decide_eq_false h1
    clear h
    go_enter Try.func54, Try.ntmps54
    go_wp2
    go_ret
    exact ⟨rfl, rfl⟩

theorem own_empty (w : World) (e : TypeId) : (w.alloc (.cells #[] e)).ownsRow w.heap.size e 1 (.slice (some ⟨w.heap.size, 0, none⟩) 0 0) 0 [] :=
  World.ownsRow_made w #[] 0 (Nat.le_refl _) (by decide) (by simp)
theorem alloc_src {w : World} {a0 : Option Addr} {kd : IntKind} {l : List Int} {B : Nat} (h : ∀ j, j < l.length → ∃ b off, a0 = some ⟨b, off, none⟩ ∧ b < B ∧ w.cell? ⟨b, off + j, none⟩ = some (.int kd (l.getD j 0))) (o : Obj) :
    ∀ j, j < l.length → ∃ b off, a0 = some ⟨b, off, none⟩ ∧ (w.alloc o).cell? ⟨b, off + j, none⟩ = some (.int kd (l.getD j 0)) := fun j hj => by
  obtain ⟨b, off, e1, e2, e3⟩ := h j hj
  exact ⟨b, off, e1, ((World.grownBy_alloc w o none).cell e3 (by simp))⟩
theorem one_src (w : World) (x : Int) (kd : IntKind) (t : TypeId) : ∀ j, j < [x].length → ∃ b off, some (⟨w.heap.size, 0, none⟩ : Addr) = some ⟨b, off, none⟩ ∧ (w.alloc (.cells #[.int kd x] t)).cell? ⟨b, off + j, none⟩ = some (.int kd ([x].getD j 0)) := fun j hj => by
  obtain rfl : j = 0 := by simpa using hj
  exact ⟨_, _, rfl, by simp⟩
theorem below_own {B base : Nat} {a w w' : World} {e : TypeId} {v : Value} {n : Nat} {xs : List Value} (h : Below B a w) (hg : w.grownBy w' v.ownBlock) (ho : w.ownsRow base e 1 v n xs) (hB : B ≤ base) (hw : B ≤ w.heap.size) : Below B a w' :=
  h.grown hg hw (fun k hk => Nat.le_trans hB (ho.lt k hk).1)

set_option maxHeartbeats 400000 in
theorem sapp_no (l : List Int) (hl : l.length ≤ 8388608) (n : Int) (hn : ¬ (0 ≤ n ∧ n ≤ 1000000000000)) (v : Value) (w : World) (hv : Reads w.heap.size w v .u8 l) :
    Calls Try.prog 26 #[v, .int .i64 n] w fun e w' => ∃ v', e = .returned v' ∧ w'.ownsRow w.heap.size 5 1 v' l.length (l.map (Value.int .u8)) ∧ Below w.heap.size w w' := by
  obtain ⟨i0, hi, hz0, hz1, hz2⟩ := info_parts infoU8
  obtain ⟨-, a0, cap, rfl, hnil, hc⟩ := hv
  have HC := Lib.hid hc
  have HN := Lib.hid hn
  have HNIL := Lib.hid hnil
  clear hc hn hnil
  go_enter Try.func26, Try.ntmps26
  go_wp2_with (first | (at_builtin; refine append_reads _ rfl _ _ 22 rfl w.heap.size 5 i0 (.int .u8 0) 1 Try.underlying22 hi hz0 hz1 hz2 rfl _ 0 [] rfl (own_empty w _) a0 l.length cap .u8 l rfl rfl HNIL.out.1 (alloc_src HC.out _) (by omega) (by omega) (by simp) ?_; intro v1 w1 hown hgrow; rw [Nat.zero_add, List.nil_append] at hown) | (go_at_call 54; refine (lin_no _ _ _ HN.out _).mono ?_; rintro e w2 ⟨rfl, rfl⟩))
  go_ret
  exact ⟨_, rfl, hown, below_own ((Below.refl _ _).alloc (Nat.le_refl _) _) hgrow (own_empty w _) (Nat.le_refl _) (by simp)⟩

set_option maxHeartbeats 800000 in
theorem sapp_yes (l : List Int) (hl : l.length ≤ 8388608) (N : Nat) (hN : N ≤ 1000000000000) (v : Value) (w : World) (hv : Reads w.heap.size w v .u8 l) :
    Calls Try.prog 26 #[v, .int .i64 N] w fun e w' => ∃ v', e = .returned v' ∧ w'.ownsRow w.heap.size 5 1 v' (l ++ enc N).length ((l ++ enc N).map (Value.int .u8)) ∧ Below w.heap.size w w' := by
  obtain ⟨i0, hi, hz0, hz1, hz2⟩ := info_parts infoU8
  obtain ⟨-, a0, cap, rfl, hnil, hc⟩ := hv
  have HC := Lib.hid hc
  have HNIL := Lib.hid hnil
  have HE := Lib.hid (enc_length 5 N (by omega))
  clear hc hnil
  go_enter Try.func26, Try.ntmps26
  go_wp2_with (first | (at_builtin; refine append_reads _ rfl _ _ 22 rfl w.heap.size 5 i0 (.int .u8 0) 1 Try.underlying22 hi hz0 hz1 hz2 rfl _ 0 [] rfl (own_empty w _) a0 l.length cap .u8 l rfl rfl HNIL.out.1 (alloc_src HC.out _) (by omega) (by omega) (by simp) ?_; intro v1 w1 hown hgrow; rw [Nat.zero_add, List.nil_append] at hown) | (go_at_call 54; refine (lin_yes _ _ _ (by omega) (by omega) _).mono ?_; rintro e w2 ⟨rfl, rfl⟩))
  have hb1 := below_own ((Below.refl w.heap.size w).alloc (Nat.le_refl _) _) hgrow (own_empty w _) (Nat.le_refl _) (by simp)
  go_loopw [1, 5] (fun nv o wr => ∃ (u : Nat) (ys : List Int), u ≤ 1000000000000 ∧ nv = .int .i64 u ∧ Hid (ys ++ enc u = enc N) ∧ wr.ownsRow w.heap.size 5 1 o (l ++ ys).length ((l ++ ys).map (Value.int .u8)) ∧ Below w.heap.size w wr) (fun nv _ _ => (intOf nv).toNat)
  case atStart => exact ⟨N, [], hN, rfl, Lib.hid (List.nil_append _), by simpa using hown, hb1⟩
  case round =>
    obtain ⟨u, ys, hu, rfl, HY, ho, hbl⟩ := hrel
    have hys : (l ++ ys).length ≤ 8388700 := by
      have h1 := congrArg List.length HY.out
      rw [List.length_append] at h1 ⊢
      have := HE.out
      omega
    by_cases hlt : 127 < u
    · have HG := Lib.hid (group_mod u)
      go_wp2_with (at_builtin; refine append_reads _ rfl _ _ 22 rfl w.heap.size 5 i0 (.int .u8 0) 1 Try.underlying22 hi hz0 hz1 hz2 rfl _ _ _ rfl (ho.alloc _) (some ⟨wr.heap.size, 0, none⟩) 1 1 .u8 [_] rfl rfl (fun e => by cases e) (one_src wr _ .u8 _) (by omega) (by omega) (by have := hbl.size; simp; omega) ?_; intro v2 w2 hown2 hgrow2; have HO2 : Hid (w2.ownsRow w.heap.size 5 1 v2 (l ++ (ys ++ [((u % 128 + 128 : Nat) : Int)])).length ((l ++ (ys ++ [((u % 128 + 128 : Nat) : Int)])).map (Value.int .u8))) := Lib.hid (by have h9 := hown2; rw [HG.out] at h9; simpa [Nat.add_assoc] using h9); clear hown2; have hb2 := below_own (hbl.alloc hbl.size _) hgrow2 (ho.alloc _) (Nat.le_refl _) (by have := hbl.size; simp; omega))
      go_roundw
      case rel => exact ⟨u / 128, ys ++ [((u % 128 + 128 : Nat) : Int)], by omega, by go_num, Lib.hid (by rw [← HY.out, enc_large (show ¬ u ≤ 127 by omega)]; simp), HO2.out, hb2⟩
      case measure => simp [intOf]; omega
    · have HG : Hid ((u : Int) % 256 = u) := Lib.hid (by omega)
      go_wp2_with (at_builtin; refine append_reads _ rfl _ _ 22 rfl w.heap.size 5 i0 (.int .u8 0) 1 Try.underlying22 hi hz0 hz1 hz2 rfl _ _ _ rfl (ho.alloc _) (some ⟨wr.heap.size, 0, none⟩) 1 1 .u8 [_] rfl rfl (fun e => by cases e) (one_src wr _ .u8 _) (by omega) (by omega) (by have := hbl.size; simp; omega) ?_; intro v2 w2 hown2 hgrow2)
      go_ret
      exact ⟨_, rfl, by rw [← HY.out, enc_small (show u ≤ 127 by omega)]; simpa [HG.out, Nat.add_assoc] using hown2, below_own (hbl.alloc hbl.size _) hgrow2 (ho.alloc _) (Nat.le_refl _) (by have := hbl.size; simp; omega)⟩

/-- ████ spec.AppendUvarint at every slice and every int. -/
theorem sapp_any (l : List Int) (hl : l.length ≤ 8388608) (n : Int) (v : Value) (w : World) (hv : Reads w.heap.size w v .u8 l) :
    Calls Try.prog 26 #[v, .int .i64 n] w fun e w' => ∃ v', e = .returned v' ∧ w'.ownsRow w.heap.size 5 1 v' (l ++ uv n).length ((l ++ uv n).map (Value.int .u8)) ∧ Below w.heap.size w w' := by
  by_cases h : 0 ≤ n ∧ n ≤ 1000000000000
  · obtain ⟨N, rfl⟩ : ∃ N : Nat, n = (N : Int) := ⟨n.toNat, by omega⟩
    have e : uv (N : Int) = enc N := by unfold uv; rw [if_pos h]; rfl
    rw [e]
    exact sapp_yes l hl N (by omega) v w hv
  · have e : uv n = [] := by unfold uv; rw [if_neg h]
    rw [e, List.append_nil]
    exact sapp_no l hl n h v w hv
end Go.Proofs.Ytffjolonpkhmoaa
