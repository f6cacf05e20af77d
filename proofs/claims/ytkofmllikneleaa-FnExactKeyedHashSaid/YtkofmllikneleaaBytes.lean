/-
  Contracts of the exact laws' helpers on byte slices: toByteS copies into new memory, eqByteS tells whether two slices read the same, markByteS writes the slice's own cells alone, heldByteS tells whether they still stand.
-/
import Derived.Test.YtkofmllikneleaaProg
import Derived.Test.YtkofmllikneleaaSlices
import Derived.WalkKit
import Derived.WalkLawsBesides
import Derived.WalkSpells
import Derived.WalkSmall
import Derived.OwnWalk
import Derived.Outline
import Derived.Lib.Hide
import Derived.Lib.SmallJoins
import Derived.Laws.AppendOwn
import Derived.Laws.OwnMore
import Derived.RegionTactic
import Derived.ChangeAlike
namespace Go.Proofs.Ytkofmllikneleaa
open Go.RowKit

theorem infoU8 : (Try.prog.info? 5).map (fun i => (i.zero, i.size, i.bytes)) = some (some (.int .u8 0), 1, 1) := by kernel_rfl

/-- What has been copied after k rounds. -/
def copied (kd : IntKind) (l : List Int) (k : Nat) : List Value := (l.take k).map (Value.int kd) ++ (List.replicate (l.length - k) 0).map (Value.int kd)
theorem copied_length (kd : IntKind) (l : List Int) (k : Nat) (h : k ≤ l.length) : (copied kd l k).length = l.length := by
  unfold copied; simp; omega
theorem copied_set (kd : IntKind) (l : List Int) (k : Nat) (h : k < l.length) : (copied kd l k).set k (.int kd (l.getD k 0)) = copied kd l (k + 1) := by
  unfold copied
  have e : l.length - k = (l.length - (k + 1)) + 1 := by omega
  rw [List.set_append_right _ _ (by simp; omega), e, List.replicate_succ, List.map_cons]
  have e2 : k - ((l.take k).map (Value.int kd)).length = 0 := by simp; omega
  rw [e2, List.set_cons_zero, List.take_succ_eq_append_getElem h, List.map_append]
  simp [List.getD, h]
theorem copied_full (kd : IntKind) (l : List Int) : copied kd l l.length = l.map (Value.int kd) := by
  unfold copied; simp
theorem copied_zero (kd : IntKind) (l : List Int) : (madeCells #[Value.int kd 0] (l.length * 1)).toList = copied kd l 0 := by
  refine List.ext_getElem (by simp [madeCells, copied]) fun i h1 h2 => ?_
  simp [madeCells, copied, Nat.mod_one]
theorem copied_at (kd : IntKind) (l : List Int) (k : Nat) (h : k < l.length) : (copied kd l k)[k]? = some (.int kd 0) := by
  unfold copied
  rw [List.getElem?_append_right (by simp; omega)]
  have e2 : k - ((l.take k).map (Value.int kd)).length = 0 := by simp; omega
  rw [e2]
  have e : l.length - k = (l.length - (k + 1)) + 1 := by omega
  rw [e, List.replicate_succ]
  simp

set_option maxHeartbeats 400000 in
theorem to_bytes (l : List Int) (hl : l.length ≤ 1048576) (v : Value) (w : World) (hv : Reads w.heap.size w v .u8 l) :
    Calls Try.prog 24 #[v] w fun e w' => ∃ v', e = .returned v' ∧ w'.ownsRow w.heap.size 5 1 v' l.length (l.map (Value.int .u8)) ∧ Below w.heap.size w w' := by
  obtain ⟨i0, hi, hz0, hz1, hz2⟩ := info_parts infoU8
  have hsrc : ∃ a0 cap, v = .slice a0 l.length cap ∧ CapOk a0 l.length cap ∧ (∀ j, j < l.length → ∃ b off, a0 = some ⟨b, off, none⟩ ∧ b < w.heap.size ∧ w.cell? ⟨b, off + j, none⟩ = some (.int .u8 (l.getD j 0))) := hv.2
  obtain ⟨a0, cap, rfl, -, hc⟩ := hsrc
  have HC := Lib.hid hc
  have HE := Lib.hid (copied_zero .u8 l)
  clear hc hv
  by_cases h0 : l.length = 0
  · obtain rfl := List.length_eq_zero_iff.1 h0
    clear h0 HC HE hl
    go_enter Try.func24, Try.ntmps24
    go_wp2_with (at_make; refine wpList_make_full _ rfl _ _ 22 rfl w.heap.size 5 i0 (.int .u8 0) 1 Try.underlying22 hi hz0 hz1 .i64 .i64 _ _ 0 rfl rfl rfl rfl (by omega) (by unfold maxLen; omega) (Nat.le_refl _) ?_; intro w1 hown hgrow)
    have HO := Lib.hid hown
    clear hown
    go_loop [4] (fun i => i = .int .i64 0) (fun _ => 0)
    case atStart => rfl
    case round =>
      subst hrel
      go_wp2
      go_ret
      exact ⟨_, rfl, by simpa [madeCells] using HO.out, (Below.refl _ _).grown hgrow (Nat.le_refl _) (fun k hk => by cases hk)⟩
  · obtain ⟨b, off, rfl, hb, -⟩ := HC.out 0 (by omega)
    go_enter Try.func24, Try.ntmps24
    go_wp2_with (at_make; refine wpList_make_full _ rfl _ _ 22 rfl w.heap.size 5 i0 (.int .u8 0) 1 Try.underlying22 hi hz0 hz1 .i64 .i64 _ _ l.length rfl rfl rfl rfl (by rw [hz2]; omega) (by unfold maxLen; omega) (Nat.le_refl _) ?_; intro w1 hown hgrow)
    go_loopw [4] (fun i wr => ∃ k : Nat, k ≤ l.length ∧ i = .int .i64 k ∧ wr.ownsRow w.heap.size 5 1 (.slice (some ⟨w.heap.size, 0, none⟩) l.length l.length) l.length (copied .u8 l k) ∧ Below w.heap.size w wr) (fun i _ => l.length - (intOf i).toNat)
    case atStart => exact ⟨0, Nat.zero_le _, rfl, by rw [← HE.out]; exact hown, (Below.refl _ _).grown hgrow (Nat.le_refl _) (fun k hk => by cases hk)⟩
    case round =>
      obtain ⟨k, hk, rfl, ho, hbl⟩ := hrel
      by_cases hlt : k < l.length
      · obtain ⟨b', off', e1, _, hcell⟩ := HC.out k hlt
        cases e1
        obtain ⟨z, hz⟩ : ∃ z, z = l.getD k 0 := ⟨_, rfl⟩
        rw [← hz] at hcell
        have hc1 := (hbl.cell (p := ⟨b, off + k, none⟩) hb).trans hcell
        have hc2 := (ho.cellAt k (by omega)).trans (copied_at .u8 l k hlt)
        have hf2 := ho.frozenAt k
        have hst := ho.stored k (.int .u8 z)
        rw [show (copied .u8 l k).set k (.int .u8 z) = copied .u8 l (k + 1) by rw [hz]; exact copied_set .u8 l k hlt] at hst
        have HS := Lib.hid hst.1
        have HO := Lib.hid ho
        clear hcell hst ho hz
        go_wp2
        go_roundw
        case rel => exact ⟨k + 1, by omega, by go_num, HS.out, hbl.setCell (Nat.le_refl _) _⟩
        case measure => simp [intOf]; omega
      · have hk' : k = l.length := by omega
        have HO := Lib.hid (show wr.ownsRow w.heap.size 5 1 (.slice (some ⟨w.heap.size, 0, none⟩) l.length l.length) l.length (l.map (Value.int .u8)) by rw [hk', copied_full] at ho; exact ho)
        clear ho hk'
        go_wp2
        go_ret
        exact ⟨_, rfl, HO.out, hbl⟩

set_option maxHeartbeats 400000 in
/-- eqByteS at two slices that read the same: true. -/
theorem eq_bytes (l : List Int) (v u : Value) (w : World) (hv : Reads w.heap.size w v .u8 l) (hu : Reads w.heap.size w u .u8 l) :
    Calls Try.prog 26 #[v, u] w fun e w' => e = .returned (.bool true) ∧ Below w.heap.size w w' := by
  obtain ⟨hl, a0, cap, rfl, -, hc⟩ := hv
  obtain ⟨-, a1, cap1, rfl, -, hd⟩ := hu
  have HC := Lib.hid hc
  have HD := Lib.hid hd
  clear hc hd
  go_enter Try.func26, Try.ntmps26
  go_wp2
  go_loopw [5] (fun i wr => ∃ k : Nat, k ≤ l.length ∧ i = .int .i64 k ∧ Below w.heap.size w wr) (fun i _ => l.length - (intOf i).toNat)
  case atStart => exact ⟨0, Nat.zero_le _, rfl, Below.refl _ _⟩
  case round =>
    obtain ⟨k, hk, rfl, hbl⟩ := hrel
    by_cases hlt : k < l.length
    · obtain ⟨b, off, rfl, hb, hcell⟩ := HC.out k hlt
      obtain ⟨b1, off1, rfl, hb1, hcell1⟩ := HD.out k hlt
      obtain ⟨z, hz⟩ : ∃ z, z = l.getD k 0 := ⟨_, rfl⟩
      rw [← hz] at hcell hcell1
      have hc1 := (hbl.cell (p := ⟨b, off + k, none⟩) hb).trans hcell
      have hc2 := (hbl.cell (p := ⟨b1, off1 + k, none⟩) hb1).trans hcell1
      clear hcell hcell1 hz
      go_wp2
      go_region
      all_goals go_wp2
      all_goals go_roundw
      case rel => exact ⟨k + 1, by omega, by go_num, by repeat (first | exact hbl | apply Below.drew)⟩
      case measure => simp [intOf]; omega
    · go_wp2
      go_ret
      exact ⟨rfl, hbl⟩

/-- The numbers that markByteS writes. -/
def marks (k0 : Int) (n : Nat) : List Int := (List.range n).map fun (i : Nat) => (k0 + (i : Int)) % 256
theorem marks_length (k0 : Int) (n : Nat) : (marks k0 n).length = n := by simp [marks]
theorem marks_getD (k0 : Int) (n j : Nat) (h : j < n) : (marks k0 n).getD j 0 = (k0 + (j : Int)) % 256 := by simp [marks, List.getD, h]
/-- What has been marked after j rounds. -/
def marked (k0 : Int) (xs : List Value) (j : Nat) : List Value := (marks k0 j).map (Value.int .u8) ++ xs.drop j
theorem marked_set (k0 : Int) (xs : List Value) (j : Nat) (h : j < xs.length) : (marked k0 xs j).set j (.int .u8 ((k0 + (j : Int)) % 256)) = marked k0 xs (j + 1) := by
  unfold marked
  rw [List.set_append_right _ _ (by simp [marks_length])]
  have e2 : j - ((marks k0 j).map (Value.int .u8)).length = 0 := by simp [marks_length]
  rw [e2, List.drop_eq_getElem_cons h, List.set_cons_zero]
  simp [marks, List.range_succ]
theorem marked_at (k0 : Int) (xs : List Value) (j : Nat) : (marked k0 xs j)[j]? = xs[j]? := by
  unfold marked
  rw [List.getElem?_append_right (by simp [marks_length])]
  simp [marks_length, List.getElem?_drop]
theorem marked_full (k0 : Int) (xs : List Value) : marked k0 xs xs.length = (marks k0 xs.length).map (Value.int .u8) := by
  unfold marked; simp

set_option maxHeartbeats 400000 in
theorem mark_bytes (base g n cap : Nat) (xs : List Value) (hx : xs.length = n) (hn : n ≤ 140737488355328) (k0 : Int) (h0 : 0 ≤ k0) (h1 : k0 ≤ 140737488355328) (w : World)
    (ho : w.ownsRow base 5 1 (.slice (some ⟨g, 0, none⟩) n cap) n xs) :
    Calls Try.prog 27 #[.slice (some ⟨g, 0, none⟩) n cap, .int .i64 k0] w fun e w' => e = .returned (.int .i64 (k0 + n)) ∧ w'.ownsRow base 5 1 (.slice (some ⟨g, 0, none⟩) n cap) n ((marks k0 n).map (Value.int .u8)) ∧ w.grownBy w' (some g) := by
  have HO0 := Lib.hid ho
  have HX := Lib.hid hx
  clear ho hx
  go_enter Try.func27, Try.ntmps27
  go_wp2
  go_loopw [1, 5] (fun kv i wr => ∃ j : Nat, j ≤ n ∧ i = .int .i64 j ∧ kv = .int .i64 (k0 + j) ∧ Hid (wr.ownsRow base 5 1 (.slice (some ⟨g, 0, none⟩) n cap) n (marked k0 xs j)) ∧ w.grownBy wr (some g)) (fun _ i _ => n - (intOf i).toNat)
  case atStart => exact ⟨0, Nat.zero_le _, rfl, by go_num, Lib.hid (by simpa [marked, marks] using HO0.out), grown_refl w _⟩
  case round =>
    obtain ⟨j, hj, rfl, rfl, HO, hg⟩ := hrel
    by_cases hlt : j < n
    · have hx := HX.out
      obtain ⟨x, hxj⟩ : ∃ x, xs[j]? = some x := ⟨_, List.getElem?_eq_getElem (by omega)⟩
      have hc := (HO.out.cellAt j (by omega)).trans ((marked_at k0 xs j).trans hxj)
      have hf := HO.out.frozenAt j
      have hst := HO.out.stored j (.int .u8 ((k0 + (j : Int)) % 256))
      rw [marked_set k0 xs j (by omega)] at hst
      have HS := Lib.hid hst
      clear hst hx hxj
      go_wp2
      go_roundw
      case rel => exact ⟨j + 1, by omega, by go_num, by go_num, Lib.hid HS.out.1, grown_trans hg HS.out.2⟩
      case measure => simp [intOf]; omega
    · have hj' : j = n := by omega
      have HF : Hid (wr.ownsRow base 5 1 (.slice (some ⟨g, 0, none⟩) n cap) n ((marks k0 n).map (Value.int .u8))) := Lib.hid (by
        have := HO.out
        have hx := HX.out
        rw [hj', ← hx, marked_full, hx] at this
        exact this)
      clear HO
      subst hj'
      go_wp2
      go_ret
      exact ⟨rfl, HF.out, hg⟩

theorem mark_nil (k0 : Int) (w : World) :
    Calls Try.prog 27 #[.slice none 0 0, .int .i64 k0] w fun e w' => e = .returned (.int .i64 k0) ∧ w = w' := by
  go_enter Try.func27, Try.ntmps27
  go_wp2
  go_loop [1, 5] (fun kv i => kv = .int .i64 k0 ∧ i = .int .i64 0) (fun _ _ => 0)
  case atStart => exact ⟨rfl, rfl⟩
  case round =>
    obtain ⟨rfl, rfl⟩ := hrel
    go_wp2
    go_ret
    exact ⟨rfl, rfl⟩
/-- markByteS at an owned row. -/
theorem mark_any (base n : Nat) (v : Value) (xs : List Value) (hx : xs.length = n) (hn : n ≤ 140737488355328) (k0 : Int) (h0 : 0 ≤ k0) (h1 : k0 ≤ 140737488355328) (w : World) (ho : w.ownsRow base 5 1 v n xs) :
    Calls Try.prog 27 #[v, .int .i64 k0] w fun e w' => e = .returned (.int .i64 (k0 + n)) ∧ w'.ownsRow base 5 1 v n ((marks k0 n).map (Value.int .u8)) ∧ w.grownBy w' v.ownBlock := by
  have ho' := ho
  rcases ho.2 with ⟨rfl, h⟩ | ⟨g, cap, cur, rfl, _⟩
  · subst h
    exact (mark_nil k0 w).mono fun e w' ⟨he, hw⟩ => by
      subst hw
      exact ⟨by rw [he]; simp, by simpa [marks] using World.ownsRow_nil w base 5 1, grown_refl _ _⟩
  · exact mark_bytes base g n cap xs hx hn k0 h0 h1 w ho'

set_option maxHeartbeats 400000 in
/-- heldByteS at a slice that reads as markByteS left it: the next number. -/
theorem held_bytes (B : Nat) (n : Nat) (hn : n ≤ 140737488355328) (k0 : Int) (h0 : 0 ≤ k0) (h1 : k0 ≤ 140737488355328) (v : Value) (w : World) (hv : Reads B w v .u8 (marks k0 n)) :
    Calls Try.prog 31 #[v, .int .i64 k0] w fun e w' => e = .returned (.int .i64 (k0 + n)) ∧ w = w' := by
  obtain ⟨-, a0, cap, rfl, -, hc⟩ := hv
  rw [marks_length] at hc ⊢
  have HC := Lib.hid hc
  clear hc
  go_enter Try.func31, Try.ntmps31
  go_wp2
  go_loop [1, 5] (fun kv i => ∃ j : Nat, j ≤ n ∧ i = .int .i64 j ∧ kv = .int .i64 (k0 + j)) (fun _ i => n - (intOf i).toNat)
  case atStart => exact ⟨0, Nat.zero_le _, rfl, by go_num⟩
  case round =>
    obtain ⟨j, hj, rfl, rfl⟩ := hrel
    by_cases hlt : j < n
    · obtain ⟨b, off, rfl, hb, hcell⟩ := HC.out j hlt
      rw [marks_getD k0 n j hlt] at hcell
      go_wp2
      go_round
      case rel => exact ⟨j + 1, by omega, by go_num, by go_num⟩
      case measure => simp [intOf]; omega
    · have hj' : j = n := by omega
      subst hj'
      go_wp2
      go_ret
      exact ⟨rfl, rfl⟩
end Go.Proofs.Ytkofmllikneleaa
