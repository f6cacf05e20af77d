/-
  Contracts of the exact laws' helpers on slices of strings: markText, toStringS, eqStringS, szStringS, markStringS, heldStringS.
-/
import Derived.Test.YthcbaiokomilaaaDoorProg
import Derived.Test.YthcbaiokomilaaaDoorVals
import Derived.WalkKit
import Derived.WalkLawsBesides
import Derived.WalkSpells
import Derived.WalkSmall
import Derived.OwnWalk
import Derived.Outline
import Derived.Lib.Hide
import Derived.Lib.SmallJoins
import Derived.Laws.AppendOwn
import Derived.Laws.OwnMore
import Derived.Laws.BytesArg
import Derived.Deep.RegionHeld3
import Derived.RegionTactic
import Derived.ChangeAlike
namespace Go.Proofs.YthcbaiokomilaaaDoor
open Go.RowKit

theorem infoStr : (Tryd.prog.info? 9).map (fun i => (i.zero, i.size, i.bytes)) = some (some (.string ⟨#[]⟩), 1, 16) := by kernel_rfl

/-- The slice v reads as the strings l. -/
def ReadsS (B : Nat) (W : World) (v : Value) (l : List ByteArray) : Prop := ReadsV B W v 1 l.length (l.map Value.string)
theorem ReadsS.cells {B : Nat} {W : World} {v : Value} {l : List ByteArray} (h : ReadsS B W v l) :
    l.length ≤ 9223372036854775807 ∧ ∃ a0 cap, v = .slice a0 l.length cap ∧ CapOk a0 l.length cap ∧ ∀ j, j < l.length → ∃ b off, a0 = some ⟨b, off, none⟩ ∧ b < B ∧ W.cell? ⟨b, off + j, none⟩ = some (.string (l.getD j ⟨#[]⟩)) := by
  obtain ⟨h0, -, a0, cap, rfl, hc, h⟩ := h
  refine ⟨h0, a0, cap, rfl, hc, fun j hj => ?_⟩
  obtain ⟨b, off, e1, e2, e3⟩ := h j (by omega)
  exact ⟨b, off, e1, e2, by rw [e3]; simp [List.getD, hj]⟩
theorem ReadsS.now {W W' : World} {v : Value} {l : List ByteArray} (h : ReadsS W.heap.size W v l) (hb : Below W.heap.size W W') : ReadsS W'.heap.size W' v l := ReadsV.now h hb
theorem readsS_own {W : World} {base n : Nat} {e : TypeId} {v : Value} {l : List ByteArray} (h : W.ownsRow base e 1 v n (l.map Value.string)) (hn : n = l.length) (hl : l.length ≤ 140737488355328) : ReadsS W.heap.size W v l := by
  subst hn
  exact readsV_own h hl

/-- What has been copied after k rounds. -/
def copiedS (l : List ByteArray) (k : Nat) : List Value := (l.take k).map Value.string ++ (List.replicate (l.length - k) (⟨#[]⟩ : ByteArray)).map Value.string
theorem copiedS_set (l : List ByteArray) (k : Nat) (h : k < l.length) : (copiedS l k).set k (.string (l.getD k ⟨#[]⟩)) = copiedS l (k + 1) := by
  unfold copiedS
  have e : l.length - k = (l.length - (k + 1)) + 1 := by omega
  rw [List.set_append_right _ _ (by simp; omega), e, List.replicate_succ, List.map_cons]
  have e2 : k - ((l.take k).map Value.string).length = 0 := by simp; omega
  rw [e2, List.set_cons_zero, List.take_succ_eq_append_getElem h, List.map_append]
  simp [List.getD, h]
theorem copiedS_full (l : List ByteArray) : copiedS l l.length = l.map Value.string := by
  unfold copiedS; simp
theorem copiedS_zero (l : List ByteArray) : (madeCells #[Value.string ⟨#[]⟩] (l.length * 1)).toList = copiedS l 0 := by
  refine List.ext_getElem (by simp [madeCells, copiedS]) fun i h1 h2 => ?_
  simp [madeCells, copiedS, Nat.mod_one]
theorem copiedS_at (l : List ByteArray) (k : Nat) (h : k < l.length) : (copiedS l k)[k]? = some (.string ⟨#[]⟩) := by
  unfold copiedS
  rw [List.getElem?_append_right (by simp; omega)]
  have e2 : k - ((l.take k).map Value.string).length = 0 := by simp; omega
  rw [e2]
  have e : l.length - k = (l.length - (k + 1)) + 1 := by omega
  rw [e, List.replicate_succ]
  simp

set_option maxHeartbeats 400000 in
theorem to_strs (l : List ByteArray) (hl : l.length ≤ 1048576) (v : Value) (w : World) (hv : ReadsS w.heap.size w v l) :
    Calls Tryd.prog 26 #[v] w fun e w' => ∃ v', e = .returned v' ∧ w'.ownsRow w.heap.size 9 1 v' l.length (l.map Value.string) ∧ Below w.heap.size w w' := by
  obtain ⟨i0, hi, hz0, hz1, hz2⟩ := info_parts infoStr
  obtain ⟨-, a0, cap, rfl, -, hc⟩ := hv.cells
  have HC := Lib.hid hc
  have HE := Lib.hid (copiedS_zero l)
  clear hc hv
  by_cases h0 : l.length = 0
  · obtain rfl := List.length_eq_zero_iff.1 h0
    clear h0 HC HE hl
    go_enter Tryd.func26, Tryd.ntmps26
    go_wp2_with (at_make; refine wpList_make_full _ rfl _ _ 28 rfl w.heap.size 9 i0 (.string ⟨#[]⟩) 1 Tryd.underlying28 hi hz0 hz1 .i64 .i64 _ _ 0 rfl rfl rfl rfl (by omega) (by unfold maxLen; omega) (Nat.le_refl _) ?_; intro w1 hown hgrow)
    have HO := Lib.hid hown
    clear hown
    go_loop [4] (fun i => i = .int .i64 0) (fun _ => 0)
    case atStart => rfl
    case round =>
      subst hrel
      go_wp2
      go_ret
      exact ⟨_, rfl, by simpa [madeCells] using HO.out, (Below.refl _ _).grown hgrow (Nat.le_refl _) (fun k hk => by cases hk)⟩
  · obtain ⟨b, off, rfl, hb, -⟩ := HC.out 0 (by omega)
    go_enter Tryd.func26, Tryd.ntmps26
    go_wp2_with (at_make; refine wpList_make_full _ rfl _ _ 28 rfl w.heap.size 9 i0 (.string ⟨#[]⟩) 1 Tryd.underlying28 hi hz0 hz1 .i64 .i64 _ _ l.length rfl rfl rfl rfl (by rw [hz2]; omega) (by unfold maxLen; omega) (Nat.le_refl _) ?_; intro w1 hown hgrow)
    go_loopw [4] (fun i wr => ∃ k : Nat, k ≤ l.length ∧ i = .int .i64 k ∧ wr.ownsRow w.heap.size 9 1 (.slice (some ⟨w.heap.size, 0, none⟩) l.length l.length) l.length (copiedS l k) ∧ Below w.heap.size w wr) (fun i _ => l.length - (intOf i).toNat)
    case atStart => exact ⟨0, Nat.zero_le _, rfl, by rw [← HE.out]; exact hown, (Below.refl _ _).grown hgrow (Nat.le_refl _) (fun k hk => by cases hk)⟩
    case round =>
      obtain ⟨k, hk, rfl, ho, hbl⟩ := hrel
      by_cases hlt : k < l.length
      · obtain ⟨b', off', e1, _, hcell⟩ := HC.out k hlt
        cases e1
        obtain ⟨z, hz⟩ : ∃ z, z = l.getD k ⟨#[]⟩ := ⟨_, rfl⟩
        rw [← hz] at hcell
        have hc1 := (hbl.cell (p := ⟨b, off + k, none⟩) hb).trans hcell
        have hc2 := (ho.cellAt k (by omega)).trans (copiedS_at l k hlt)
        have hf2 := ho.frozenAt k
        have hst := ho.stored k (.string z)
        rw [show (copiedS l k).set k (.string z) = copiedS l (k + 1) by rw [hz]; exact copiedS_set l k hlt] at hst
        have HS := Lib.hid hst.1
        have HO := Lib.hid ho
        clear hcell hst ho hz
        go_wp2
        go_roundw
        case rel => exact ⟨k + 1, by omega, by go_num, HS.out, hbl.setCell (Nat.le_refl _) _⟩
        case measure => simp [intOf]; omega
      · have hk' : k = l.length := by omega
        have HO := Lib.hid (show wr.ownsRow w.heap.size 9 1 (.slice (some ⟨w.heap.size, 0, none⟩) l.length l.length) l.length (l.map Value.string) by rw [hk', copiedS_full] at ho; exact ho)
        clear ho hk'
        go_wp2
        go_ret
        exact ⟨_, rfl, HO.out, hbl⟩

set_option maxHeartbeats 400000 in
/-- eqStringS at two slices that read the same: true. -/
theorem eq_strs (l : List ByteArray) (v u : Value) (w : World) (hv : ReadsS w.heap.size w v l) (hu : ReadsS w.heap.size w u l) :
    Calls Tryd.prog 27 #[v, u] w fun e w' => e = .returned (.bool true) ∧ Below w.heap.size w w' := by
  obtain ⟨hl, a0, cap, rfl, -, hc⟩ := hv.cells
  obtain ⟨-, a1, cap1, rfl, -, hd⟩ := hu.cells
  have HC := Lib.hid hc
  have HD := Lib.hid hd
  clear hc hd hv hu
  go_enter Tryd.func27, Tryd.ntmps27
  go_wp2
  go_loopw [5] (fun i wr => ∃ k : Nat, k ≤ l.length ∧ i = .int .i64 k ∧ Below w.heap.size w wr) (fun i _ => l.length - (intOf i).toNat)
  case atStart => exact ⟨0, Nat.zero_le _, rfl, Below.refl _ _⟩
  case round =>
    obtain ⟨k, hk, rfl, hbl⟩ := hrel
    by_cases hlt : k < l.length
    · obtain ⟨b, off, rfl, hb, hcell⟩ := HC.out k hlt
      obtain ⟨b1, off1, rfl, hb1, hcell1⟩ := HD.out k hlt
      obtain ⟨z, hz⟩ : ∃ z, z = l.getD k ⟨#[]⟩ := ⟨_, rfl⟩
      rw [← hz] at hcell hcell1
      have hc1 := (hbl.cell (p := ⟨b, off + k, none⟩) hb).trans hcell
      have hc2 := (hbl.cell (p := ⟨b1, off1 + k, none⟩) hb1).trans hcell1
      clear hcell hcell1 hz
      go_wp2
      go_region
      all_goals go_wp2
      all_goals go_roundw
      case rel => exact ⟨k + 1, by omega, by go_num, by repeat (first | exact hbl | apply Below.drew)⟩
      case measure => simp [intOf]; omega
    · go_wp2
      go_ret
      exact ⟨rfl, hbl⟩

/-- What szStringS tells. -/
def SzS (l : List ByteArray) (left r : Int) : Prop := -1 ≤ r ∧ (0 ≤ r → r ≤ left ∧ (l.length : Int) ≤ left ∧ ∀ z ∈ l, (z.size : Int) ≤ left)
set_option maxHeartbeats 400000 in
theorem sz_strs (l : List ByteArray) (left : Int) (h0 : 0 ≤ left) (h1 : left ≤ 1048576) (v : Value) (w : World) (hz : ∀ z ∈ l, z.size ≤ maxLen) (hv : ReadsS w.heap.size w v l) :
    Calls Tryd.prog 24 #[v, .int .i64 left] w fun e w' => ∃ r, SzS l left r ∧ e = .returned (.int .i64 r) ∧ w = w' := by
  obtain ⟨hl, a0, cap, rfl, -, hc⟩ := hv.cells
  have HC := Lib.hid hc
  have HZ := Lib.hid hz
  clear hc hz hv
  by_cases hbig : left < l.length
  · go_enter Tryd.func24, Tryd.ntmps24
    go_wp2
    go_ret
    exact ⟨-1, ⟨by decide, fun h => by omega⟩, rfl, rfl⟩
  · go_enter Tryd.func24, Tryd.ntmps24
    go_wp2
    go_loopw [1, 5] (fun lv i wr => ∃ (k : Nat) (r : Int), k ≤ l.length ∧ i = .int .i64 k ∧ lv = .int .i64 r ∧ 0 ≤ r ∧ r ≤ left ∧ Hid (∀ z ∈ l.take k, (z.size : Int) ≤ left) ∧ w = wr) (fun _ i _ => l.length - (intOf i).toNat)
    case atStart => exact ⟨0, left - l.length, Nat.zero_le _, rfl, rfl, by omega, by omega, Lib.hid (by simp), rfl⟩
    case round =>
      obtain ⟨k, r, hk, rfl, rfl, hr0, hr1, HL, rfl⟩ := hrel
      by_cases hlt : k < l.length
      · obtain ⟨b, off, rfl, hb, hcell⟩ := HC.out k hlt
        obtain ⟨z, hz⟩ : ∃ z, z = l.getD k ⟨#[]⟩ := ⟨_, rfl⟩
        have hzm : z.size ≤ 9223372036854775807 := by
          have h9 := HZ.out z (by rw [hz]; simp [List.getD, hlt])
          unfold maxLen at h9
          omega
        have HT : Hid (l.take (k + 1) = l.take k ++ [z]) := Lib.hid (by rw [List.take_succ_eq_append_getElem hlt, hz]; simp [List.getD, hlt])
        rw [← hz] at hcell
        clear hz
        by_cases hover : r < z.size
        · go_wp2
          go_ret
          exact ⟨-1, ⟨by decide, fun h => by omega⟩, rfl, rfl⟩
        · go_wp2
          go_roundw
          case rel => exact ⟨k + 1, r - z.size, by omega, by go_num, by go_num, by omega, by omega, Lib.hid (by
            intro y hy
            rw [HT.out] at hy
            rcases List.mem_append.1 hy with h | h
            · exact HL.out y h
            · simp only [List.mem_singleton] at h; subst h; omega), by trivial⟩
          case measure => simp [intOf]; omega
      · have HLF : Hid (∀ z ∈ l, (z.size : Int) ≤ left) := Lib.hid (by
          have h9 := HL.out
          rw [List.take_of_length_le (by omega)] at h9
          exact h9)
        go_wp2
        go_ret
        exact ⟨r, ⟨by omega, fun _ => ⟨hr1, by omega, HLF.out⟩⟩, rfl, rfl⟩

/-- A digit's byte. -/
def dig (k : Nat) : UInt8 := UInt8.ofNat (48 + k % 10)
theorem dig_nat (k : Nat) : ((dig k).toNat : Int) = 48 + (k : Int) % 10 := by
  have h : (dig k).toNat = 48 + k % 10 := by
    unfold dig
    rw [UInt8.toNat_ofNat']
    omega
  omega
/-- What markText writes for a number. -/
def mtail (k : Nat) : ByteArray := if k = 0 then ⟨#[]⟩ else mtail (k / 10) ++ ⟨#[dig k]⟩
  termination_by k
  decreasing_by omega
theorem mtail_pos {k : Nat} (h : 0 < k) : mtail k = mtail (k / 10) ++ ⟨#[dig k]⟩ := by
  rw [mtail, if_neg (by omega)]
theorem mtail_zero : mtail 0 = ⟨#[]⟩ := by rw [mtail, if_pos rfl]
def mtext (k : Nat) : ByteArray := (⟨#[109]⟩ : ByteArray) ++ mtail k
theorem conv_one (w : World) (x : Int) (c : UInt8) (h : x = (c.toNat : Int)) :
    (convert 22 9 (.slice (some ⟨w.heap.size, 0, none⟩) 1 1)).run Tryd.prog (w.alloc (.cells #[.int .u8 x] 5)) = .ok (.string ⟨#[c]⟩) (w.alloc (.cells #[.int .u8 x] 5)) := by
  subst h
  have h9 := run_convert_bytes_arg (P := Tryd.prog) (w.alloc (.cells #[.int .u8 (c.toNat : Int)] 5)) 22 5 Tryd.underlying22 Tryd.underlying5 w.heap.size 0 1 1 [(c.toNat : Int)] rfl (fun i hi => by
    obtain rfl : i = 0 := by omega
    rw [World.cell?_alloc_mark]
    rfl) 9 Tryd.underlying9
  rw [show strOfNums [(c.toNat : Int)] = ⟨#[c]⟩ by simp [strOfNums]] at h9
  exact h9
theorem str_nil (s : ByteArray) : s ++ (⟨#[]⟩ : ByteArray) = s := ByteArray.append_empty
theorem nil_str (s : ByteArray) : (⟨#[]⟩ : ByteArray) ++ s = s := ByteArray.empty_append
set_option maxHeartbeats 400000 in
theorem mtext_any (x : Int) (k : Nat) (hx : x = (k : Int)) (h0 : 1 ≤ k) (h1 : k ≤ 140737488355328) (w : World) :
    Calls Tryd.prog 51 #[.int .i64 x] w fun e w' => e = .returned (.string (mtext k)) ∧ Below w.heap.size w w' := by
  subst hx
  go_enter Tryd.func51, Tryd.ntmps51
  go_wp2
  go_loopw [0, 3] (fun kv o wr => ∃ (m : Nat) (q : ByteArray), m + q.size ≤ k ∧ kv = .int .i64 m ∧ o = .string q ∧ Hid (mtail m ++ q = mtail k) ∧ Below w.heap.size w wr) (fun kv _ _ => (intOf kv).toNat)
  case atStart => exact ⟨k, ⟨#[]⟩, Nat.le_refl _, rfl, rfl, Lib.hid (str_nil _), Below.refl _ _⟩
  case round =>
    obtain ⟨m, q, hm, rfl, rfl, HQ, hbl⟩ := hrel
    by_cases hlt : 0 < m
    · have hcv := conv_one wr (48 + (m : Int) % 10) (dig m) (dig_nat m).symm
      have HQ2 : Hid (mtail (m / 10) ++ ((⟨#[dig m]⟩ : ByteArray) ++ q) = mtail k) := Lib.hid (by rw [← ByteArray.append_assoc, ← mtail_pos hlt, HQ.out])
      have hqs : ((⟨#[dig m]⟩ : ByteArray) ++ q).size = q.size + 1 := by rw [ByteArray.size_append, Nat.add_comm]; rfl
      go_wp2
      go_roundw
      case rel => exact ⟨m / 10, _, by omega, by go_num, rfl, HQ2, hbl.alloc hbl.size _⟩
      case measure => simp [intOf]; omega
    · have HF : Hid (q = mtail k) := Lib.hid (by rw [← HQ.out, show m = 0 by omega, mtail_zero, nil_str])
      go_wp2
      go_ret
      exact ⟨by rw [HF.out]; rfl, hbl⟩

/-- The texts that markStringS writes. -/
def smarks (k0 n : Nat) : List ByteArray := (List.range n).map fun i => mtext (k0 + i)
theorem smarks_length (k0 n : Nat) : (smarks k0 n).length = n := by simp [smarks]
theorem smarks_getD (k0 n j : Nat) (h : j < n) : (smarks k0 n).getD j ⟨#[]⟩ = mtext (k0 + j) := by simp [smarks, List.getD, h]
/-- What has been marked after j rounds. -/
def smarked (k0 : Nat) (xs : List Value) (j : Nat) : List Value := (smarks k0 j).map Value.string ++ xs.drop j
theorem smarked_set (k0 : Nat) (xs : List Value) (j : Nat) (h : j < xs.length) : (smarked k0 xs j).set j (.string (mtext (k0 + j))) = smarked k0 xs (j + 1) := by
  unfold smarked
  rw [List.set_append_right _ _ (by simp [smarks_length])]
  have e2 : j - ((smarks k0 j).map Value.string).length = 0 := by simp [smarks_length]
  rw [e2, List.drop_eq_getElem_cons h, List.set_cons_zero]
  simp [smarks, List.range_succ]
theorem smarked_at (k0 : Nat) (xs : List Value) (j : Nat) : (smarked k0 xs j)[j]? = xs[j]? := by
  unfold smarked
  rw [List.getElem?_append_right (by simp [smarks_length])]
  simp [smarks_length, List.getElem?_drop]
theorem smarked_full (k0 : Nat) (xs : List Value) : smarked k0 xs xs.length = (smarks k0 xs.length).map Value.string := by
  unfold smarked; simp
theorem grown_of_below {w w' : World} (h : Below w.heap.size w w') (r : Option Nat) : w.grownBy w' r := ⟨h.os, h.tape, h.output, h.size, fun k hk _ => h.block k hk⟩

set_option maxHeartbeats 400000 in
theorem mark_strs (base g n cap : Nat) (xs : List Value) (hx : xs.length = n) (hn : n ≤ 70368744177664) (k0 : Nat) (h0 : 1 ≤ k0) (h1 : k0 ≤ 70368744177664) (w : World)
    (ho : w.ownsRow base 9 1 (.slice (some ⟨g, 0, none⟩) n cap) n xs) :
    Calls Tryd.prog 28 #[.slice (some ⟨g, 0, none⟩) n cap, .int .i64 k0] w fun e w' => e = .returned (.int .i64 ((k0 + n : Nat) : Int)) ∧ w'.ownsRow base 9 1 (.slice (some ⟨g, 0, none⟩) n cap) n ((smarks k0 n).map Value.string) ∧ w.grownBy w' (some g) := by
  have HO0 := Lib.hid ho
  have HX := Lib.hid hx
  clear ho hx
  go_enter Tryd.func28, Tryd.ntmps28
  go_wp2
  go_loopw [1, 5] (fun kv i wr => ∃ j : Nat, j ≤ n ∧ i = .int .i64 j ∧ kv = .int .i64 (k0 + j) ∧ Hid (wr.ownsRow base 9 1 (.slice (some ⟨g, 0, none⟩) n cap) n (smarked k0 xs j)) ∧ w.grownBy wr (some g)) (fun _ i _ => n - (intOf i).toNat)
  case atStart => exact ⟨0, Nat.zero_le _, rfl, by go_num, Lib.hid (by simpa [smarked, smarks] using HO0.out), grown_refl w _⟩
  case round =>
    obtain ⟨j, hj, rfl, rfl, HO, hg⟩ := hrel
    by_cases hlt : j < n
    · have hx := HX.out
      obtain ⟨x, hxj⟩ : ∃ x, xs[j]? = some x := ⟨_, List.getElem?_eq_getElem (by omega)⟩
      have HC := Lib.hid ((smarked_at k0 xs j).trans hxj)
      have HE := Lib.hid (smarked_set k0 xs j (by omega))
      clear hx hxj
      go_wp2_with (go_at_call 51; refine (mtext_any _ (k0 + j) (by omega) (by omega) (by omega) _).mono ?_; rintro e w2 ⟨rfl, b2⟩; have HO2 := Lib.hid (ownV_later HO.out b2); have hc := (HO2.out.cellAt j (by omega)).trans HC.out; have hf := HO2.out.frozenAt j; have HS := Lib.hid (HO2.out.stored j (.string (mtext (k0 + j)))); have HG := Lib.hid (grown_trans hg (grown_of_below b2 (some g))); clear b2)
      have HS1 := HS.out.1
      rw [HE.out] at HS1
      have HS2 := Lib.hid HS1
      have HG2 := Lib.hid (grown_trans HG.out HS.out.2)
      clear HS1
      go_roundw
      case rel => exact ⟨j + 1, by omega, by go_num, by go_num, HS2, HG2.out⟩
      case measure => simp [intOf]; omega
    · have hj' : j = n := by omega
      have HF : Hid (wr.ownsRow base 9 1 (.slice (some ⟨g, 0, none⟩) n cap) n ((smarks k0 n).map Value.string)) := Lib.hid (by
        have := HO.out
        have hx := HX.out
        rw [hj', ← hx, smarked_full, hx] at this
        exact this)
      clear HO
      subst hj'
      go_wp2
      go_ret
      exact ⟨by first | rfl | (congr 2; omega), HF.out, hg⟩

theorem smark_nil (k0 : Nat) (w : World) :
    Calls Tryd.prog 28 #[.slice none 0 0, .int .i64 k0] w fun e w' => e = .returned (.int .i64 k0) ∧ w = w' := by
  go_enter Tryd.func28, Tryd.ntmps28
  go_wp2
  go_loop [1, 5] (fun kv i => kv = .int .i64 k0 ∧ i = .int .i64 0) (fun _ _ => 0)
  case atStart => exact ⟨rfl, rfl⟩
  case round =>
    obtain ⟨rfl, rfl⟩ := hrel
    go_wp2
    go_ret
    exact ⟨rfl, rfl⟩
/-- markStringS at an owned row. -/
theorem smark_any (base n : Nat) (v : Value) (xs : List Value) (hx : xs.length = n) (hn : n ≤ 70368744177664) (k0 : Nat) (h0 : 1 ≤ k0) (h1 : k0 ≤ 70368744177664) (w : World) (ho : w.ownsRow base 9 1 v n xs) :
    Calls Tryd.prog 28 #[v, .int .i64 k0] w fun e w' => e = .returned (.int .i64 ((k0 + n : Nat) : Int)) ∧ w'.ownsRow base 9 1 v n ((smarks k0 n).map Value.string) ∧ w.grownBy w' v.ownBlock := by
  have ho' := ho
  rcases ho.2 with ⟨rfl, h⟩ | ⟨g, cap, cur, rfl, _⟩
  · subst h
    exact (smark_nil k0 w).mono fun e w' ⟨he, hw⟩ => by
      subst hw
      exact ⟨by rw [he]; simp, by simpa [smarks] using World.ownsRow_nil w base 9 1, grown_refl _ _⟩
  · exact mark_strs base g n cap xs hx hn k0 h0 h1 w ho'

set_option maxHeartbeats 400000 in
/-- heldStringS at a slice that reads as markStringS left it: the next number. -/
theorem held_strs (n : Nat) (hn : n ≤ 70368744177664) (k0 : Nat) (h0 : 1 ≤ k0) (h1 : k0 ≤ 70368744177664) (v : Value) (w : World) (hv : ReadsS w.heap.size w v (smarks k0 n)) :
    Calls Tryd.prog 29 #[v, .int .i64 k0] w fun e w' => e = .returned (.int .i64 ((k0 + n : Nat) : Int)) ∧ Below w.heap.size w w' := by
  obtain ⟨-, a0, cap, rfl, -, hc⟩ := hv.cells
  rw [smarks_length] at hc ⊢
  have HC := Lib.hid hc
  clear hc hv
  go_enter Tryd.func29, Tryd.ntmps29
  go_wp2
  go_loopw [1, 5] (fun kv i wr => ∃ j : Nat, j ≤ n ∧ i = .int .i64 j ∧ kv = .int .i64 (k0 + j) ∧ Below w.heap.size w wr) (fun _ i _ => n - (intOf i).toNat)
  case atStart => exact ⟨0, Nat.zero_le _, rfl, by go_num, Below.refl _ _⟩
  case round =>
    obtain ⟨j, hj, rfl, rfl, hbl⟩ := hrel
    by_cases hlt : j < n
    · obtain ⟨b, off, rfl, hb, hcell⟩ := HC.out j hlt
      rw [smarks_getD k0 n j hlt] at hcell
      have hc1 := (hbl.cell (p := ⟨b, off + j, none⟩) hb).trans hcell
      clear hcell
      have hbr : b < wr.heap.size := Nat.lt_of_lt_of_le hb hbl.size
      go_wp2
      go_region_held3 (fun w' => w'.cell? ⟨b, off + j, none⟩ = some (.string (mtext (k0 + j)))) (first | exact hc1 | exact cS) (first | (go_at_call 51; refine Calls.mono (mtext_any _ (k0 + j) (by omega) (by omega) (by omega) _) ?_; rintro e w2 ⟨rfl, b2⟩; have cS := (b2.cell (p := ⟨b, off + j, none⟩) hbr).trans hc1; have HB2 : Hid (Below w.heap.size w w2) := Lib.hid (by first | exact hbl.trans (b2.mono hbl.size) | exact hbl.drew.trans (b2.mono hbl.size))))
      all_goals go_wp2
      all_goals go_roundw
      case rel => exact ⟨j + 1, by omega, by go_num, by go_num, by repeat (first | exact HB2.out | apply Below.drew)⟩
      case measure => simp [intOf]; omega
    · have hj' : j = n := by omega
      subst hj'
      go_wp2
      go_ret
      exact ⟨by first | rfl | (congr 2; omega), hbl⟩
end Go.Proofs.YthcbaiokomilaaaDoor
