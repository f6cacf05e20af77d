/-
  Contracts of spec.EqualInts and impl.EqualInts: true exactly if both slices read the same.
-/
import Derived.Test.YtpkbjcdllkkhdaaKit
import Derived.Test.YtpkbjcdllkkhdaaInts
namespace Go.Proofs.Ytpkbjcdllkkhdaa
open Go.RowKit

theorem u_EqualInts {a b : List Int} {x y : Bool} (h : x = decide (a = b)) (h' : y = decide (a = b)) : x = y := h.trans h'.symm
/-- The first k numbers of both are alike. -/
theorem alike_end {l s : List Int} (hn : l.length = s.length) (h : ∀ j, j < l.length → l.getD j 0 = s.getD j 0) : l = s := by
  refine List.ext_getElem hn fun i h1 h2 => ?_
  have := h i h1
  simpa [List.getD, h1, h2] using this
theorem other_at {l s : List Int} {k : Nat} (h : l.getD k 0 ≠ s.getD k 0) : l ≠ s := fun e => h (by rw [e])

set_option maxHeartbeats 800000 in
theorem seq_any (l s : List Int) (v u : Value) (w : World) (hv : Reads w.heap.size w v .i64 l) (hu : Reads w.heap.size w u .i64 s) (hl : l.length ≤ 1048576) :
    Calls Try.prog 4 #[v, u] w fun e w' => e = .returned (.bool (decide (l = s))) ∧ Below w.heap.size w w' := by
  obtain ⟨-, a0, cap, rfl, -, hc⟩ := hv
  obtain ⟨-, a1, cap1, rfl, -, hd⟩ := hu
  have HC := Lib.hid hc
  have HD := Lib.hid hd
  clear hc hd
  by_cases hn : l.length = s.length
  · have HN := Lib.hid hn
    have hb0 : ((l.length : Int) != s.length) = false := by simp; omega
    clear hn
    go_enter Try.func4, Try.ntmps4
    go_wp2
    go_loopw [5] (fun i wr => ∃ k : Nat, k ≤ l.length ∧ i = .int .i64 k ∧ Hid (∀ j, j < k → l.getD j 0 = s.getD j 0) ∧ Below w.heap.size w wr) (fun i _ => l.length - (intOf i).toNat)
    case atStart => exact ⟨0, Nat.zero_le _, rfl, Lib.hid (fun j hj => absurd hj (Nat.not_lt_zero _)), Below.refl _ _⟩
    case round =>
      obtain ⟨k, hk, rfl, HE, hbl⟩ := hrel
      by_cases hlt : k < l.length
      · have hlt2 : k < s.length := by have := HN.out; omega
        obtain ⟨b, off, rfl, hb, hcell⟩ := HC.out k hlt
        obtain ⟨b1, off1, rfl, hb1, hcell1⟩ := HD.out k hlt2
        obtain ⟨z, hz⟩ : ∃ z, z = l.getD k 0 := ⟨_, rfl⟩
        obtain ⟨y, hy⟩ : ∃ y, y = s.getD k 0 := ⟨_, rfl⟩
        rw [← hz] at hcell
        rw [← hy] at hcell1
        have hc1 := (hbl.cell (p := ⟨b, off + k, none⟩) hb).trans hcell
        have hc2 := (hbl.cell (p := ⟨b1, off1 + k, none⟩) hb1).trans hcell1
        have HZ := Lib.hid hz
        have HY := Lib.hid hy
        clear hcell hcell1 hz hy
        by_cases hzy : z = y
        · have HE2 : Hid (∀ j, j < k + 1 → l.getD j 0 = s.getD j 0) := Lib.hid (fun j hj => by
            by_cases e : j = k
            · subst e; rw [← HZ.out, ← HY.out, hzy]
            · exact HE.out j (by omega))
          subst hzy
          go_wp2
          go_region
          all_goals go_wp2
          go_roundw
          case rel => exact ⟨k + 1, by omega, by go_num, HE2, hbl.drew⟩
          case measure => simp [intOf]; omega
        · have HF : Hid (decide (l = s) = false) := Lib.hid (decide_eq_false (other_at (k := k) (by rw [← HZ.out, ← HY.out]; exact hzy)))
          have hb' : (z != y) = true := by simpa using hzy
          clear hzy
          go_wp2
          go_region
          all_goals go_wp2
          go_ret
          exact ⟨by rw [HF.out]; rfl, hbl.drew⟩
      · have HT : Hid (decide (l = s) = true) := Lib.hid (decide_eq_true (alike_end HN.out (fun j hj => HE.out j (by omega))))
        go_wp2
        go_ret
        exact ⟨by rw [HT.out]; rfl, hbl⟩
  · have HF : Hid (decide (l = s) = false) := Lib.hid (decide_eq_false (fun e => hn (by rw [e])))
    have hb' : ((l.length : Int) != s.length) = true := by simp; omega
    clear hn
    go_enter Try.func4, Try.ntmps4
    go_wp2
    go_ret
    exact ⟨by rw [HF.out]; rfl, Below.refl _ _⟩
set_option maxHeartbeats 800000 in
theorem leq_any (l s : List Int) (v u : Value) (w : World) (hv : Reads w.heap.size w v .i64 l) (hu : Reads w.heap.size w u .i64 s) (hl : l.length ≤ 1048576) :
    Calls Try.prog 8 #[v, u] w fun e w' => e = .returned (.bool (decide (l = s))) ∧ Below w.heap.size w w' := by
  obtain ⟨-, a0, cap, rfl, -, hc⟩ := hv
  obtain ⟨-, a1, cap1, rfl, -, hd⟩ := hu
  have HC := Lib.hid hc
  have HD := Lib.hid hd
  clear hc hd
  by_cases hn : l.length = s.length
  · have HN := Lib.hid hn
    have hb0 : ((l.length : Int) != s.length) = false := by simp; omega
    clear hn
    go_enter Try.func8, Try.ntmps8
    go_wp2
    go_loopw [13] (fun i wr => ∃ k : Nat, k ≤ l.length ∧ i = .int .i64 k ∧ Hid (∀ j, j < k → l.getD j 0 = s.getD j 0) ∧ Below w.heap.size w wr) (fun i _ => l.length - (intOf i).toNat)
    case atStart => exact ⟨0, Nat.zero_le _, rfl, Lib.hid (fun j hj => absurd hj (Nat.not_lt_zero _)), Below.refl _ _⟩
    case round =>
      obtain ⟨k, hk, rfl, HE, hbl⟩ := hrel
      by_cases hlt : k < l.length
      · have hlt2 : k < s.length := by have := HN.out; omega
        obtain ⟨b, off, rfl, hb, hcell⟩ := HC.out k hlt
        obtain ⟨b1, off1, rfl, hb1, hcell1⟩ := HD.out k hlt2
        obtain ⟨z, hz⟩ : ∃ z, z = l.getD k 0 := ⟨_, rfl⟩
        obtain ⟨y, hy⟩ : ∃ y, y = s.getD k 0 := ⟨_, rfl⟩
        rw [← hz] at hcell
        rw [← hy] at hcell1
        have hc1 := (hbl.cell (p := ⟨b, off + k, none⟩) hb).trans hcell
        have hc2 := (hbl.cell (p := ⟨b1, off1 + k, none⟩) hb1).trans hcell1
        have HZ := Lib.hid hz
        have HY := Lib.hid hy
        clear hcell hcell1 hz hy
        by_cases hzy : z = y
        · have HE2 : Hid (∀ j, j < k + 1 → l.getD j 0 = s.getD j 0) := Lib.hid (fun j hj => by
            by_cases e : j = k
            · subst e; rw [← HZ.out, ← HY.out, hzy]
            · exact HE.out j (by omega))
          subst hzy
          go_wp2
          go_region
          all_goals go_wp2
          go_roundw
          case rel => exact ⟨k + 1, by omega, by go_num, HE2, hbl.drew⟩
          case measure => simp [intOf]; omega
        · have HF : Hid (decide (l = s) = false) := Lib.hid (decide_eq_false (other_at (k := k) (by rw [← HZ.out, ← HY.out]; exact hzy)))
          have hb' : (z != y) = true := by simpa using hzy
          clear hzy
          go_wp2
          go_region
          all_goals go_wp2
          go_ret
          exact ⟨by rw [HF.out]; rfl, hbl.drew⟩
      · have HT : Hid (decide (l = s) = true) := Lib.hid (decide_eq_true (alike_end HN.out (fun j hj => HE.out j (by omega))))
        go_wp2
        go_ret
        exact ⟨by rw [HT.out]; rfl, hbl⟩
  · have HF : Hid (decide (l = s) = false) := Lib.hid (decide_eq_false (fun e => hn (by rw [e])))
    have hb' : ((l.length : Int) != s.length) = true := by simp; omega
    clear hn
    go_enter Try.func8, Try.ntmps8
    go_wp2
    go_ret
    exact ⟨by rw [HF.out]; rfl, Below.refl _ _⟩

theorem ieq_any (l s : List Int) (v u : Value) (w : World) (hv : Reads w.heap.size w v .i64 l) (hu : Reads w.heap.size w u .i64 s) (hl : l.length ≤ 1048576) :
    Calls Try.prog 6 #[v, u] w fun e w' => e = .returned (.bool (decide (l = s))) ∧ Below w.heap.size w w' := by
  have HC := Lib.hid (leq_any l s v u w hv hu hl)
  obtain ⟨-, a0, cap, rfl, -, -⟩ := hv
  obtain ⟨-, a1, cap1, rfl, -, -⟩ := hu
  go_enter Try.func6, Try.ntmps6
  go_wp2_with (go_at_call 8; refine HC.out.mono ?_; rintro e w2 ⟨rfl, b2⟩)
  go_ret
  exact ⟨rfl, b2⟩

theorem s_EqualInts (v : Value) (l : List Int) (u : Value) (s : List Int) (w : World) (hR : Reads w.heap.size w v .i64 l) (_hB : ∀ z ∈ l, -9223372036854775808 ≤ z ∧ z ≤ 9223372036854775807) (hl : l.length ≤ 1048576) (hR' : Reads w.heap.size w u .i64 s) (_hB' : ∀ z ∈ s, -9223372036854775808 ≤ z ∧ z ≤ 9223372036854775807) (_hl' : s.length ≤ 1048576) :
    Calls Try.prog 4 #[v, u] w fun e w' => ∃ r, r = decide (l = s) ∧ e = .returned (.bool r) ∧ Below w.heap.size w w' :=
  (seq_any l s v u w hR hR' hl).mono fun _ _ ⟨h1, h2⟩ => ⟨_, rfl, h1, h2⟩
theorem i_EqualInts (v : Value) (l : List Int) (u : Value) (s : List Int) (w : World) (hR : Reads w.heap.size w v .i64 l) (_hB : ∀ z ∈ l, -9223372036854775808 ≤ z ∧ z ≤ 9223372036854775807) (hl : l.length ≤ 1048576) (hR' : Reads w.heap.size w u .i64 s) (_hB' : ∀ z ∈ s, -9223372036854775808 ≤ z ∧ z ≤ 9223372036854775807) (_hl' : s.length ≤ 1048576) :
    Calls Try.prog 6 #[v, u] w fun e w' => ∃ r, r = decide (l = s) ∧ e = .returned (.bool r) ∧ Below w.heap.size w w' :=
  (ieq_any l s v u w hR hR' hl).mono fun _ _ ⟨h1, h2⟩ => ⟨_, rfl, h1, h2⟩
end Go.Proofs.Ytpkbjcdllkkhdaa
