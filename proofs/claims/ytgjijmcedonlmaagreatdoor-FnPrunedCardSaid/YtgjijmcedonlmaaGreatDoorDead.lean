/-
  IsDead and CountChoices, of the model and of the program.
-/
import Derived.Test.YtgjijmcedonlmaaGreatDoorNest
import Derived.Test.YtgjijmcedonlmaaGreatDoorSlF
namespace Go.Proofs.YtgjijmcedonlmaaGreatDoor
open Go.RowKit

def deadF (L : List (List ByteArray)) : Bool := L.any fun m => decide (m.length = 0)
def sumN (L : List (List ByteArray)) : Nat := (L.map List.length).sum
theorem sumN_next {L : List (List ByteArray)} {k : Nat} (h : k < L.length) : sumN (L.take (k + 1)) = sumN (L.take k) + (L.getD k []).length := by
  rw [take_one_more (d := []) h]
  simp [sumN]
theorem sumN_le : ∀ (C : List (List ByteArray)) (b : Nat), (∀ m ∈ C, m.length ≤ b) → sumN C ≤ C.length * b
  | [], _, _ => by simp [sumN]
  | x :: C, b, h => by
    have h1 := sumN_le C b (fun m hm => h m (List.mem_cons_of_mem _ hm))
    have h2 := h x (List.mem_cons_self ..)
    simp only [sumN, List.map_cons, List.sum_cons, List.length_cons, Nat.add_mul, Nat.one_mul] at h1 ⊢
    omega
theorem sumN_take (L : List (List ByteArray)) (k b : Nat) (hb : ∀ m ∈ L, m.length ≤ b) : sumN (L.take k) ≤ L.length * b := by
  refine Nat.le_trans (sumN_le _ b (fun m hm => hb m (List.mem_of_mem_take hm))) (Nat.mul_le_mul_right b ?_)
  rw [List.length_take]
  omega
theorem dead_no {L : List (List ByteArray)} (h : ∀ m ∈ L, m.length ≠ 0) : deadF L = false := by
  unfold deadF
  rw [List.any_eq_false]
  exact fun m hm => by rw [decide_eq_false (h m hm)]; decide
theorem dead_yes {L : List (List ByteArray)} {k : Nat} (hk : k < L.length) (h : (L.getD k []).length = 0) : deadF L = true :=
  List.any_eq_true.2 ⟨L.getD k [], by simp [List.getD, hk], decide_eq_true h⟩
theorem len_of_reads {B : Nat} {W : World} {u : Value} {l : List ByteArray} (h : ReadsS B W u l) : ∃ a c, u = .slice a l.length c := by
  obtain ⟨-, a, c, rfl, -⟩ := h.cells
  exact ⟨a, c, rfl⟩
set_option maxHeartbeats 800000 in
theorem icnt12_any (L : List (List ByteArray)) (hl : L.length ≤ 16777216) (hm : ∀ m ∈ L, m.length ≤ 16777216) (v : Value) (w : World) (hv : ReadsN w.heap.size w v L) :
    Calls Tryz.prog 7 #[v] w fun e w' => e = .returned (.int .i64 (sumN L : Nat)) ∧ Below w.heap.size w w' := by
  obtain ⟨-, a0, cap, rfl, -, hc⟩ := hv.cells
  have HC := Lib.hid hc
  have HB : Hid (∀ k, sumN (L.take k) ≤ 281474976710656) := Lib.hid (fun k => by have := sumN_take L k _ hm; have := Nat.mul_le_mul_right 16777216 hl; omega)
  clear hc hv hm
  go_enter Tryz.func7, Tryz.ntmps7
  go_wp2
  go_loopw [3, 8] (fun n i wr => ∃ (k q : Nat), k ≤ L.length ∧ i = .int .i64 k ∧ n = .int .i64 q ∧ Hid (sumN (L.take k) = q) ∧ w = wr) (fun _ i _ => L.length - (intOf i).toNat)
  case atStart => exact ⟨0, 0, Nat.zero_le _, rfl, rfl, Lib.hid (by simp [sumN]), rfl⟩
  case round =>
    obtain ⟨k, q, hk, rfl, rfl, HQ, rfl⟩ := hrel
    by_cases hlt : k < L.length
    · obtain ⟨b, off, u, rfl, hb, hcell, hu⟩ := HC.out k hlt
      obtain ⟨a1, c1, rfl⟩ := len_of_reads hu
      have HT := Lib.hid (sumN_next hlt)
      have hq2 : q + (L.getD k []).length ≤ 281474976710656 := by have := HB.out (k + 1); rw [HT.out, HQ.out] at this; exact this
      obtain ⟨n, hn⟩ : ∃ n, n = (L.getD k []).length := ⟨_, rfl⟩
      rw [← hn] at HT hq2 hcell
      clear hu hn
      go_wp2
      go_roundw
      case rel => exact ⟨k + 1, q + n, by omega, by go_num, by go_num, Lib.hid (by rw [HT.out, HQ.out]), by trivial⟩
      case measure => simp [intOf]; omega
    · have HF : Hid (sumN L = q) := Lib.hid (by rw [← HQ.out, List.take_of_length_le (by omega)])
      go_wp2
      go_ret
      exact ⟨by rw [HF.out]; rfl, Below.refl _ _⟩
set_option maxHeartbeats 800000 in
theorem idead_cl (a : Option Addr) (n c : Nat) (w : World) :
    Calls Tryz.prog 34 #[.slice a n c] w fun e w' => e = .returned (.bool (decide (n = 0))) ∧ w = w' := by
  cases n with
  | zero =>
    go_enter Tryz.func34, Tryz.ntmps34
    go_wp2
    go_ret
    exact ⟨rfl, rfl⟩
  | succ n =>
    have h0 : ((((n + 1 : Nat) : Int)) == 0) = false := beq_eq_false_iff_ne.2 (by omega)
    have HD : Hid (decide (n + 1 = 0) = false) := Lib.hid (decide_eq_false (by omega))
    obtain ⟨N, hN⟩ : ∃ N, N = n + 1 := ⟨_, rfl⟩
    rw [← hN] at h0 HD ⊢
    clear hN
    go_enter Tryz.func34, Tryz.ntmps34
    go_wp2
    go_ret
    exact ⟨by rw [HD.out]; rfl, rfl⟩
set_option maxRecDepth 100000 in
set_option maxHeartbeats 1600000 in
theorem idxN_any (L : List (List ByteArray)) (hl : L.length ≤ 16777216) (v : Value) (w : World) (hv : ReadsN w.heap.size w v L) :
    Calls Tryz.prog 70 #[v, .func (.func 34) #[] #[]] w fun e w' => ∃ r, FirstAt (fun m : List ByteArray => decide (m.length = 0)) L [] r ∧ e = .returned (.int .i64 r) ∧ Below w.heap.size w w' := by
  obtain ⟨-, a0, cap, rfl, -, hc⟩ := hv.cells
  have HC := Lib.hid hc
  clear hc hv
  go_enter Tryz.func70, Tryz.ntmps70
  go_wp2
  go_loopw [8] (fun i wr => ∃ k : Nat, k ≤ L.length ∧ i = .int .i64 k ∧ Hid (∀ m ∈ L.take k, m.length ≠ 0) ∧ w = wr) (fun i _ => L.length - (intOf i).toNat)
  case atStart => exact ⟨0, Nat.zero_le _, rfl, Lib.hid (by simp), rfl⟩
  case round =>
    obtain ⟨k, hk, rfl, HN, rfl⟩ := hrel
    by_cases hlt : k < L.length
    · have hd : decide ((k : Int) < (L.length : Int)) = true := decide_eq_true (by omega)
      obtain ⟨b, off, u, rfl, hb, hcell, hu⟩ := HC.out k hlt
      obtain ⟨a1, c1, rfl⟩ := len_of_reads hu
      have HT := Lib.hid (take_one_more (d := ([] : List ByteArray)) hlt)
      have HG : Hid ((L.getD k []).length = 0 → FirstAt (fun m : List ByteArray => decide (m.length = 0)) L [] k) := Lib.hid (fun h => Or.inr ⟨k, rfl, hlt, by simpa using h, fun z hz => by simpa using HN.out z hz⟩)
      have HN2 : Hid ((L.getD k []).length ≠ 0 → ∀ m ∈ L.take (k + 1), m.length ≠ 0) := Lib.hid (fun hz m hm => by
          rw [HT.out] at hm
          rcases List.mem_append.1 hm with h | h
          · exact HN.out m h
          · rw [List.mem_singleton.1 h]; exact hz)
      have HCL := Lib.hid (fun w => idead_cl a1 (L.getD k []).length c1 w)
      obtain ⟨n, hn⟩ : ∃ n, n = (L.getD k []).length := ⟨_, rfl⟩
      rw [← hn] at HG HN2 HCL hcell
      clear hu hn HT
      by_cases hz : n = 0
      · have HG2 := Lib.hid (HG.out hz)
        rw [decide_eq_true hz] at HCL
        clear HG HN2 hz
        go_wp2_with (go_at_call 34; refine (HCL.out _).mono ?_; rintro e w3 ⟨rfl, rfl⟩)
        go_ret
        exact ⟨_, HG2.out, rfl, Below.refl _ _⟩
      · have HN3 := Lib.hid (HN2.out hz)
        rw [decide_eq_false hz] at HCL
        clear HG HN2 HN hz
        go_wp2_with (go_at_call 34; refine (HCL.out _).mono ?_; rintro e w3 ⟨rfl, rfl⟩)
        go_roundw
        case rel => exact ⟨k + 1, by omega, by go_num, HN3, by trivial⟩
        case measure => simp [intOf]; omega
    · have hd : decide ((k : Int) < (L.length : Int)) = false := decide_eq_false (by omega)
      obtain rfl : k = L.length := by omega
      have HG : Hid (FirstAt (fun m : List ByteArray => decide (m.length = 0)) L [] (-1)) := Lib.hid (Or.inl ⟨rfl, fun y hy => by simpa using HN.out y (by rw [List.take_length]; exact hy)⟩)
      go_wp2
      go_ret
      exact ⟨-1, HG.out, rfl, Below.refl _ _⟩
theorem idead_val : ∀ (fn : Fn) (first cap : Array Value) (w : World), (Instr.makeFunc fn first cap).run Tryz.prog w = .ok (.func fn first cap) w := fun _ _ _ _ => rfl
set_option maxHeartbeats 800000 in
theorem idead_any (L : List (List ByteArray)) (hl : L.length ≤ 16777216) (v : Value) (w : World) (hv : ReadsN w.heap.size w v L) :
    Calls Tryz.prog 17 #[v] w fun e w' => e = .returned (.bool (deadF L)) ∧ Below w.heap.size w w' := by
  have HI := Lib.hid (idxN_any L hl v w hv)
  have HA : Hid (∀ r, FirstAt (fun m : List ByteArray => decide (m.length = 0)) L [] r → decide (0 ≤ r) = deadF L) := Lib.hid (fun r h => h.any)
  clear hv
  have HCF : Hid (Calls Tryz.prog 33 #[v, .func (.func 34) #[] #[]] w fun e w' => e = .returned (.bool (deadF L)) ∧ Below w.heap.size w w') := Lib.hid (by
    go_enter Tryz.func33, Tryz.ntmps33
    go_wp2_with (go_at_call 70; refine HI.out.mono ?_; rintro e w1 ⟨r, hr, rfl, b1⟩; have HR := Lib.hid (HA.out r hr); have HB1 := Lib.hid b1; clear hr b1)
    go_ret
    exact ⟨by rw [← HR.out]; rfl, HB1.out⟩)
  have hmf := idead_val
  go_enter Tryz.func17, Tryz.ntmps17
  go_wp2_with (go_at_call 33; refine HCF.out.mono ?_; rintro e w1 ⟨rfl, b1⟩)
  go_ret
  exact ⟨rfl, b1⟩
end Go.Proofs.YtgjijmcedonlmaaGreatDoor
