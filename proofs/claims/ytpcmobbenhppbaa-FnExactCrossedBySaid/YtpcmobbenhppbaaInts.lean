/-
  Contracts of the exact laws' helpers on slices of integers, as Bytes has them on byte slices: toIntS, eqIntS, markIntS, heldIntS.
-/
import Derived.Test.YtpcmobbenhppbaaProg
import Derived.Test.YtpcmobbenhppbaaSlices
import Derived.WalkKit
import Derived.WalkLawsBesides
import Derived.WalkSpells
import Derived.WalkSmall
import Derived.OwnWalk
import Derived.Outline
import Derived.Lib.Hide
import Derived.Lib.SmallJoins
import Derived.Laws.AppendOwn
import Derived.Laws.OwnMore
import Derived.RegionTactic
import Derived.ChangeAlike
namespace Go.Proofs.Ytpcmobbenhppbaa
open Go.RowKit

theorem infoInt : (Try.prog.info? 3).map (fun i => (i.zero, i.size, i.bytes)) = some (some (.int .i64 0), 1, 8) := by kernel_rfl

set_option maxHeartbeats 400000 in
/-- eqIntS at two slices that read the same: true. -/
theorem eq_ints (l : List Int) (v u : Value) (w : World) (hv : Reads w.heap.size w v .i64 l) (hu : Reads w.heap.size w u .i64 l) :
    Calls Try.prog 28 #[v, u] w fun e w' => e = .returned (.bool true) ∧ Below w.heap.size w w' := by
  obtain ⟨hl, a0, cap, rfl, -, hc⟩ := hv
  obtain ⟨-, a1, cap1, rfl, -, hd⟩ := hu
  have HC := Lib.hid hc
  have HD := Lib.hid hd
  clear hc hd
  go_enter Try.func28, Try.ntmps28
  go_wp2
  go_loopw [5] (fun i wr => ∃ k : Nat, k ≤ l.length ∧ i = .int .i64 k ∧ Below w.heap.size w wr) (fun i _ => l.length - (intOf i).toNat)
  case atStart => exact ⟨0, Nat.zero_le _, rfl, Below.refl _ _⟩
  case round =>
    obtain ⟨k, hk, rfl, hbl⟩ := hrel
    by_cases hlt : k < l.length
    · obtain ⟨b, off, rfl, hb, hcell⟩ := HC.out k hlt
      obtain ⟨b1, off1, rfl, hb1, hcell1⟩ := HD.out k hlt
      obtain ⟨z, hz⟩ : ∃ z, z = l.getD k 0 := ⟨_, rfl⟩
      rw [← hz] at hcell hcell1
      have hc1 := (hbl.cell (p := ⟨b, off + k, none⟩) hb).trans hcell
      have hc2 := (hbl.cell (p := ⟨b1, off1 + k, none⟩) hb1).trans hcell1
      clear hcell hcell1 hz
      go_wp2
      go_region
      all_goals go_wp2
      all_goals go_roundw
      case rel => exact ⟨k + 1, by omega, by go_num, by repeat (first | exact hbl | apply Below.drew)⟩
      case measure => simp [intOf]; omega
    · go_wp2
      go_ret
      exact ⟨rfl, hbl⟩

/-- The numbers that markIntS writes. -/
def imarks (k0 : Int) (n : Nat) : List Int := (List.range n).map fun (i : Nat) => (k0 + (i : Int))
theorem imarks_length (k0 : Int) (n : Nat) : (imarks k0 n).length = n := by simp [imarks]
theorem imarks_getD (k0 : Int) (n j : Nat) (h : j < n) : (imarks k0 n).getD j 0 = (k0 + (j : Int)) := by simp [imarks, List.getD, h]
/-- What has been imarked after j rounds. -/
def imarked (k0 : Int) (xs : List Value) (j : Nat) : List Value := (imarks k0 j).map (Value.int .i64) ++ xs.drop j
theorem imarked_set (k0 : Int) (xs : List Value) (j : Nat) (h : j < xs.length) : (imarked k0 xs j).set j (.int .i64 ((k0 + (j : Int)))) = imarked k0 xs (j + 1) := by
  unfold imarked
  rw [List.set_append_right _ _ (by simp [imarks_length])]
  have e2 : j - ((imarks k0 j).map (Value.int .i64)).length = 0 := by simp [imarks_length]
  rw [e2, List.drop_eq_getElem_cons h, List.set_cons_zero]
  simp [imarks, List.range_succ]
theorem imarked_at (k0 : Int) (xs : List Value) (j : Nat) : (imarked k0 xs j)[j]? = xs[j]? := by
  unfold imarked
  rw [List.getElem?_append_right (by simp [imarks_length])]
  simp [imarks_length, List.getElem?_drop]
theorem imarked_full (k0 : Int) (xs : List Value) : imarked k0 xs xs.length = (imarks k0 xs.length).map (Value.int .i64) := by
  unfold imarked; simp

set_option maxHeartbeats 400000 in
theorem mark_ints (base g n cap : Nat) (xs : List Value) (hx : xs.length = n) (hn : n ≤ 140737488355328) (k0 : Int) (h0 : 0 ≤ k0) (h1 : k0 ≤ 140737488355328) (w : World)
    (ho : w.ownsRow base 3 1 (.slice (some ⟨g, 0, none⟩) n cap) n xs) :
    Calls Try.prog 29 #[.slice (some ⟨g, 0, none⟩) n cap, .int .i64 k0] w fun e w' => e = .returned (.int .i64 (k0 + n)) ∧ w'.ownsRow base 3 1 (.slice (some ⟨g, 0, none⟩) n cap) n ((imarks k0 n).map (Value.int .i64)) ∧ w.grownBy w' (some g) := by
  have HO0 := Lib.hid ho
  have HX := Lib.hid hx
  clear ho hx
  go_enter Try.func29, Try.ntmps29
  go_wp2
  go_loopw [1, 5] (fun kv i wr => ∃ j : Nat, j ≤ n ∧ i = .int .i64 j ∧ kv = .int .i64 (k0 + j) ∧ Hid (wr.ownsRow base 3 1 (.slice (some ⟨g, 0, none⟩) n cap) n (imarked k0 xs j)) ∧ w.grownBy wr (some g)) (fun _ i _ => n - (intOf i).toNat)
  case atStart => exact ⟨0, Nat.zero_le _, rfl, by go_num, Lib.hid (by simpa [imarked, imarks] using HO0.out), grown_refl w _⟩
  case round =>
    obtain ⟨j, hj, rfl, rfl, HO, hg⟩ := hrel
    by_cases hlt : j < n
    · have hx := HX.out
      obtain ⟨x, hxj⟩ : ∃ x, xs[j]? = some x := ⟨_, List.getElem?_eq_getElem (by omega)⟩
      have hc := (HO.out.cellAt j (by omega)).trans ((imarked_at k0 xs j).trans hxj)
      have hf := HO.out.frozenAt j
      have hst := HO.out.stored j (.int .i64 ((k0 + (j : Int))))
      rw [imarked_set k0 xs j (by omega)] at hst
      have HS := Lib.hid hst
      clear hst hx hxj
      go_wp2
      go_roundw
      case rel => exact ⟨j + 1, by omega, by go_num, by go_num, Lib.hid HS.out.1, grown_trans hg HS.out.2⟩
      case measure => simp [intOf]; omega
    · have hj' : j = n := by omega
      have HF : Hid (wr.ownsRow base 3 1 (.slice (some ⟨g, 0, none⟩) n cap) n ((imarks k0 n).map (Value.int .i64))) := Lib.hid (by
        have := HO.out
        have hx := HX.out
        rw [hj', ← hx, imarked_full, hx] at this
        exact this)
      clear HO
      subst hj'
      go_wp2
      go_ret
      exact ⟨rfl, HF.out, hg⟩

theorem imark_nil (k0 : Int) (w : World) :
    Calls Try.prog 29 #[.slice none 0 0, .int .i64 k0] w fun e w' => e = .returned (.int .i64 k0) ∧ w = w' := by
  go_enter Try.func29, Try.ntmps29
  go_wp2
  go_loop [1, 5] (fun kv i => kv = .int .i64 k0 ∧ i = .int .i64 0) (fun _ _ => 0)
  case atStart => exact ⟨rfl, rfl⟩
  case round =>
    obtain ⟨rfl, rfl⟩ := hrel
    go_wp2
    go_ret
    exact ⟨rfl, rfl⟩
/-- markIntS at an owned row. -/
theorem imark_any (base n : Nat) (v : Value) (xs : List Value) (hx : xs.length = n) (hn : n ≤ 140737488355328) (k0 : Int) (h0 : 0 ≤ k0) (h1 : k0 ≤ 140737488355328) (w : World) (ho : w.ownsRow base 3 1 v n xs) :
    Calls Try.prog 29 #[v, .int .i64 k0] w fun e w' => e = .returned (.int .i64 (k0 + n)) ∧ w'.ownsRow base 3 1 v n ((imarks k0 n).map (Value.int .i64)) ∧ w.grownBy w' v.ownBlock := by
  have ho' := ho
  rcases ho.2 with ⟨rfl, h⟩ | ⟨g, cap, cur, rfl, _⟩
  · subst h
    exact (imark_nil k0 w).mono fun e w' ⟨he, hw⟩ => by
      subst hw
      exact ⟨by rw [he]; simp, by simpa [imarks] using World.ownsRow_nil w base 3 1, grown_refl _ _⟩
  · exact mark_ints base g n cap xs hx hn k0 h0 h1 w ho'

set_option maxHeartbeats 400000 in
/-- heldIntS at a slice that reads as markIntS left it: the next number. -/
theorem held_ints (B : Nat) (n : Nat) (hn : n ≤ 140737488355328) (k0 : Int) (h0 : 0 ≤ k0) (h1 : k0 ≤ 140737488355328) (v : Value) (w : World) (hv : Reads B w v .i64 (imarks k0 n)) :
    Calls Try.prog 30 #[v, .int .i64 k0] w fun e w' => e = .returned (.int .i64 (k0 + n)) ∧ w = w' := by
  obtain ⟨-, a0, cap, rfl, -, hc⟩ := hv
  rw [imarks_length] at hc ⊢
  have HC := Lib.hid hc
  clear hc
  go_enter Try.func30, Try.ntmps30
  go_wp2
  go_loop [1, 5] (fun kv i => ∃ j : Nat, j ≤ n ∧ i = .int .i64 j ∧ kv = .int .i64 (k0 + j)) (fun _ i => n - (intOf i).toNat)
  case atStart => exact ⟨0, Nat.zero_le _, rfl, by go_num⟩
  case round =>
    obtain ⟨j, hj, rfl, rfl⟩ := hrel
    by_cases hlt : j < n
    · obtain ⟨b, off, rfl, hb, hcell⟩ := HC.out j hlt
      rw [imarks_getD k0 n j hlt] at hcell
      go_wp2
      go_round
      case rel => exact ⟨j + 1, by omega, by go_num, by go_num⟩
      case measure => simp [intOf]; omega
    · have hj' : j = n := by omega
      subst hj'
      go_wp2
      go_ret
      exact ⟨rfl, rfl⟩
end Go.Proofs.Ytpcmobbenhppbaa
