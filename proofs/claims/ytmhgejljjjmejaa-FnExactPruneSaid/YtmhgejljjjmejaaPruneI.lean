/-
  The program's prune: slices.Contains at ints, what meets what.
-/
import Derived.Test.YtmhgejljjjmejaaStrikeI
namespace Go.Proofs.Ytmhgejljjjmejaa
open Go.RowKit

def cN (j : Nat) : Value := .int .i64 (j : Int)
set_option maxHeartbeats 800000 in
theorem idxN_any (l : List Nat) (x : Nat) (hl : l.length ≤ 16777216) (v : Value) (w : World) (hv : ReadsV w.heap.size w v 1 l.length (l.map cN)) :
    Calls Try.prog 51 #[v, .int .i64 (x : Int)] w fun e w' => (∃ r : Int, e = .returned (.int .i64 r) ∧ (0 ≤ r ↔ x ∈ l)) ∧ w = w' := by
  obtain ⟨-, -, a0, cap, rfl, -, hc⟩ := hv
  have HC := Lib.hid hc
  clear hc
  go_enter Try.func51, Try.ntmps51
  go_wp2
  go_loop [8] (fun i => ∃ k : Nat, k ≤ l.length ∧ i = .int .i64 (k : Int) ∧ Hid (∀ y ∈ l.take k, y ≠ x)) (fun i => l.length - (intOf i).toNat)
  case atStart => exact ⟨0, Nat.zero_le _, rfl, Lib.hid (by simp)⟩
  case round =>
    obtain ⟨k, hk, rfl, HN⟩ := hrel
    by_cases hlt : k < l.length
    · obtain ⟨b, off, rfl, hb, q0⟩ := HC.out k (by omega)
      rw [List.getElem?_map, List.getElem?_eq_getElem hlt] at q0
      have q1 : w.cell? ⟨b, off + k, none⟩ = some (.int .i64 ((l[k] : Nat) : Int)) := q0
      clear q0
      have HT : Hid (l.take (k + 1) = l.take k ++ [l[k]]) := Lib.hid (List.take_succ_eq_append_getElem hlt)
      have HM : Hid (l[k] ∈ l) := Lib.hid (List.getElem_mem hlt)
      obtain ⟨z, hz⟩ : ∃ z, z = l[k] := ⟨_, rfl⟩
      rw [← hz] at q1 HT HM
      clear hz
      have hd : decide ((k : Int) < (l.length : Int)) = true := decide_eq_true (by omega)
      by_cases he : z = x
      · subst he
        have HF : Hid ((0 : Int) ≤ (k : Int) ↔ z ∈ l) := Lib.hid ⟨fun _ => HM.out, fun _ => by omega⟩
        go_wp2
        go_ret
        first | exact ⟨⟨_, rfl, HF.out⟩, rfl⟩ | exact ⟨HF.out, rfl⟩ | exact HF.out
      · have hne : (((x : Nat) : Int) == ((z : Nat) : Int)) = false := beq_eq_false_iff_ne.2 (by omega)
        have hne2 : (((z : Nat) : Int) == ((x : Nat) : Int)) = false := beq_eq_false_iff_ne.2 (by omega)
        have HN2 : Hid (∀ y ∈ l.take (k + 1), y ≠ x) := Lib.hid (fun y hy => by
          rw [HT.out] at hy
          rcases List.mem_append.1 hy with h | h
          · exact HN.out y h
          · simp only [List.mem_singleton] at h; subst h; exact he)
        clear he
        go_wp2
        go_round
        case rel => exact ⟨k + 1, by omega, by go_num, HN2⟩
        case measure => simp [intOf]; omega
    · have hd : decide ((k : Int) < (l.length : Int)) = false := decide_eq_false (by omega)
      have HF : Hid ((0 : Int) ≤ -1 ↔ x ∈ l) := Lib.hid ⟨fun h => absurd h (by decide), fun h => absurd rfl (HN.out x (by rw [List.take_of_length_le (by omega)]; exact h))⟩
      go_wp2
      go_ret
      first | exact ⟨⟨-1, rfl, HF.out⟩, rfl⟩ | exact ⟨HF.out, rfl⟩ | exact HF.out
theorem contN_any (l : List Nat) (x : Nat) (hl : l.length ≤ 16777216) (v : Value) (w : World) (hv : ReadsV w.heap.size w v 1 l.length (l.map cN)) :
    Calls Try.prog 41 #[v, .int .i64 (x : Int)] w fun e w' => e = .returned (.bool (decide (x ∈ l))) ∧ w = w' := by
  have HI := Lib.hid (idxN_any l x hl v w hv)
  obtain ⟨-, -, a, c, rfl, -, -⟩ := hv
  go_enter Try.func41, Try.ntmps41
  go_wp2_with (go_at_call 51; refine HI.out.mono ?_; rintro e w1 ⟨⟨r, rfl, hr⟩, rfl⟩; have HR : Hid (decide (r ≥ 0) = decide (x ∈ l)) := Lib.hid (by simp only [ge_iff_le, hr]); clear hr)
  go_ret
  exact ⟨by rw [← HR.out]; rfl, rfl⟩
/-- What meets: a slot of another one, and the other way round. -/
theorem meet_turn {X : List CrossV} {n : Nat} (h : ∀ x ∈ X, ∃ i j p r q : Nat, x = ((i : Int), (j : Int), (p : Int), (r : Int), (q : Int)) ∧ i < j ∧ j < n) {i j : Nat} (hm : ∃ u ∈ meetS X i, u.2.1 = j) : i ≠ j ∧ ∃ u ∈ meetS X j, u.2.1 = i := by
  obtain ⟨u, hu, rfl⟩ := hm
  unfold meetS at hu
  obtain ⟨x, hx, hux⟩ := List.mem_flatMap.1 hu
  obtain ⟨a, b, p, r, q, rfl, hab, hbn⟩ := h x hx
  unfold meetX at hux
  rcases List.mem_append.1 hux with h1 | h1
  · split at h1
    · rename_i e
      have e : (a : Int) = (i : Int) := e
      rw [List.mem_singleton.1 h1]
      refine ⟨by show i ≠ (Int.toNat (b : Int)); omega, ((r : Int).toNat, (a : Int).toNat, (p : Int).toNat), ?_, by show (a : Int).toNat = i; omega⟩
      unfold meetS
      refine List.mem_flatMap.2 ⟨_, hx, ?_⟩
      unfold meetX
      refine List.mem_append.2 (.inr ?_)
      rw [if_pos (by show (b : Int) = (((b : Int).toNat : Nat) : Int); omega)]
      simp
    · cases h1
  · split at h1
    · rename_i e
      have e : (b : Int) = (i : Int) := e
      rw [List.mem_singleton.1 h1]
      refine ⟨by show i ≠ (Int.toNat (a : Int)); omega, ((p : Int).toNat, (b : Int).toNat, (r : Int).toNat), ?_, by show (b : Int).toNat = i; omega⟩
      unfold meetS
      refine List.mem_flatMap.2 ⟨_, hx, ?_⟩
      unfold meetX
      refine List.mem_append.2 (.inl ?_)
      rw [if_pos (by show (a : Int) = (((a : Int).toNat : Nat) : Int); omega)]
      simp
    · cases h1
/-- A slot whose words are looked at: the others that do not meet it keep theirs. -/
theorem keep_ok {l : List SlotV} {X : List CrossV} {n : Nat} (hX : ∀ x ∈ X, ∃ i j p r q : Nat, x = ((i : Int), (j : Int), (p : Int), (r : Int), (q : Int)) ∧ i < j ∧ j < n) {C : List (List ByteArray)} {i j : Nat} {m : List ByteArray} (hj : ¬ ∃ u ∈ meetS X i, u.2.1 = j) (z : ByteArray) : okX l X (C.set i m) j z = okX l X C j z :=
  okX_set fun u hu e => hj (meet_turn hX ⟨u, hu, e⟩).2
theorem self_ok {X : List CrossV} {n : Nat} (hX : ∀ x ∈ X, ∃ i j p r q : Nat, x = ((i : Int), (j : Int), (p : Int), (r : Int), (q : Int)) ∧ i < j ∧ j < n) (i : Nat) : ¬ ∃ u ∈ meetS X i, u.2.1 = i := fun h => (meet_turn hX h).1 rfl
end Go.Proofs.Ytmhgejljjjmejaa
