/-
  The program's hasSupport: its closure, slices.ContainsFunc at demands.
-/
import Derived.Test.YtmhgejljjjmejaaHasL
import Derived.Test.YtmhgejljjjmejaaSlF
import Derived.Test.YtmhgejljjjmejaaDomPure
import Derived.Deep.RegionWith
namespace Go.Proofs.Ytmhgejljjjmejaa
open Go.RowKit

abbrev DemV := Nat × Nat
def cD (q : DemV) : List Value := [.int .i64 (q.1 : Int), .int .u64 (q.2 : Int)]
theorem cD_length (q : DemV) : (cD q).length = 2 := rfl
theorem cD_one (l : List DemV) : ∀ u ∈ l.flatMap cD, u.oneCell' = true := by
  intro u hu
  obtain ⟨z, -, hz⟩ := List.mem_flatMap.1 hu
  simp only [cD, List.mem_cons, List.not_mem_nil, or_false] at hz
  rcases hz with rfl | rfl <;> rfl
/-- A letter of a word as a number from 0 on. -/
def ltN (x : ByteArray) (p : Nat) : Nat := (x.data.toList.getD p 0).toNat - 97
def demQ (x : ByteArray) (q : DemV) : Bool := q.2.testBit (ltN x q.1)
/-- What hasSupport tells. -/
def okQ (x : ByteArray) (n : Int) (Q : List DemV) : Bool := isW x && decide ((x.size : Int) = n) && Q.all (demQ x)
theorem lt_word {x : ByteArray} (h : isW x = true) {p : Nat} (hp : p < x.size) : x[p].toNat = 97 + ltN x p ∧ ltN x p < 26 := by
  have h1 := (word_of h).2.2 _ (byte_mem x p hp)
  have h2 := getD_byte x p hp
  have h3 := h1.1
  have h4 := h1.2
  unfold ltN
  rw [h2]
  omega
set_option maxRecDepth 100000 in
set_option maxHeartbeats 1600000 in
/-- The closure: whether a demand is not met by the word that it captured. -/
theorem hs1_any (p S : Nat) (x : ByteArray) (hw : isW x = true) (hp : p < x.size) (hS : S < 67108864) (b : Nat) (w : World) (hb : b < w.heap.size) (hc : w.cell? ⟨b, 0, none⟩ = some (.string x)) :
    Calls Try.prog 68 #[.agg #[.int .i64 p, .int .u64 S], .pointer (some ⟨b, 0, none⟩)] w fun e w' => e = .returned (.bool (!demQ x (p, S))) ∧ Below w.heap.size w w' := by
  obtain ⟨h1, h2⟩ := lt_word hw hp
  have HQ : Hid (demQ x (p, S) = S.testBit (ltN x p)) := Lib.hid rfl
  have hsz8 := (word_of hw).2.1
  obtain ⟨c, hcc⟩ : ∃ c, c = ltN x p := ⟨_, rfl⟩
  rw [← hcc] at h1 h2 HQ
  have h255 : x[p].toNat ≤ 255 := by omega
  have hwr : IntKind.u8.wrap ((x[p].toNat : Int) - 97) = (c : Int) := by rw [h1]; rw [show (((97 + c : Nat) : Int) - 97) = (c : Int) by omega]; exact IntWalk.u8_in _ (by omega)
  have HHS := Lib.hid (fun w => hasL_any S c hS h2 w)
  obtain ⟨t, ht⟩ : ∃ t, t = S.testBit c := ⟨_, rfl⟩
  rw [← ht] at HHS HQ
  have HW : Hid (Below w.heap.size w (w.alloc (.cells #[.int .i64 p, .int .u64 S] 116))) := Lib.hid ((Below.refl _ _).alloc (Nat.le_refl _) _)
  clear hcc ht h1 hw
  go_enter Try.func68, Try.ntmps68
  go_wp2_with fail
  obtain ⟨W1, hW1⟩ : ∃ W1, W1 = w.alloc (.cells #[.int .i64 p, .int .u64 S] 116) := ⟨_, rfl⟩
  have e0 : W1.cell? ⟨w.heap.size, 0, none⟩ = some (.int .i64 p) := by rw [hW1]; simp
  have e1 : W1.cell? ⟨w.heap.size, 1, none⟩ = some (.int .u64 S) := by rw [hW1]; simp
  rw [← hW1] at HW ⊢
  clear hW1
  have e4 := (HW.out.cell (p := ⟨b, 0, none⟩) hb).trans hc
  go_quiet (first | (go_at_call 69; exact (HHS.out _).mono fun _ _ h => ⟨h.1, ⟨_, h.2.symm⟩⟩))
  all_goals go_wp2
  all_goals go_ret
  all_goals exact ⟨by rw [HQ.out]; rfl, by first | exact HW.out | exact HW.out.trans ((Joins.below_draws _ _ _).mono HW.out.size)⟩
/-- What the demands keep to. -/
def DemOk (Q : List DemV) (size : Nat) : Prop := ∀ q ∈ Q, q.1 < size ∧ q.2 < 67108864
theorem all_take {α : Type} {p : α → Bool} {l : List α} (h : ∀ y ∈ l, p y = true) : l.all p = true := List.all_eq_true.2 h
set_option maxRecDepth 100000 in
set_option maxHeartbeats 1600000 in
theorem idxD_any (Q : List DemV) (hl : Q.length ≤ 16777216) (x : ByteArray) (hw : isW x = true) (hq : DemOk Q x.size) (b : Nat) (v : Value) (w : World) (hb : b < w.heap.size) (hcb : w.cell? ⟨b, 0, none⟩ = some (.string x)) (hv : ReadsV w.heap.size w v 2 Q.length (Q.flatMap cD)) :
    Calls Try.prog 79 #[v, .func (.func 68) #[] #[.pointer (some ⟨b, 0, none⟩)]] w fun e w' => ∃ r, FirstAt (fun q => !demQ x q) Q (0, 0) r ∧ e = .returned (.int .i64 r) ∧ Below w.heap.size w w' := by
  have HAT := Lib.hid (row0_at cD 2 cD_length Q)
  obtain ⟨-, -, a0, cap, rfl, -, hc⟩ := hv
  have HC := Lib.hid hc
  have HQ := Lib.hid hq
  have HWD := Lib.hid hw
  have HK : Hid (∀ w', Below w.heap.size w w' → b < w'.heap.size ∧ w'.cell? ⟨b, 0, none⟩ = some (.string x)) := Lib.hid (fun w' h => ⟨Nat.lt_of_lt_of_le hb h.size, (h.cell (p := ⟨b, 0, none⟩) hb).trans hcb⟩)
  clear hc hq hw hb hcb
  go_enter Try.func79, Try.ntmps79
  go_wp2
  go_loopw [8] (fun i wr => ∃ k : Nat, k ≤ Q.length ∧ i = .int .i64 k ∧ Hid (∀ y ∈ Q.take k, (!demQ x y) = false) ∧ Hid (Below w.heap.size w wr)) (fun i _ => Q.length - (intOf i).toNat)
  case atStart => exact ⟨0, Nat.zero_le _, rfl, Lib.hid (by simp), Lib.hid (Below.refl _ _)⟩
  case round =>
    obtain ⟨k, hk, rfl, HN, HB⟩ := hrel
    by_cases hlt : k < Q.length
    · have hd : decide ((k : Int) < (Q.length : Int)) = true := decide_eq_true (by omega)
      obtain ⟨b1, off, e1, hb1, q0⟩ := HC.out (k * 2 + 0) (by omega)
      obtain ⟨b2, off2, e2, hb2, q1⟩ := HC.out (k * 2 + 1) (by omega)
      subst e1
      injection e2 with e2
      injection e2 with e3 e4
      subst e3 e4
      rw [HAT.out k hlt 0 (by decide)] at q0
      rw [HAT.out k hlt 1 (by decide)] at q1
      have hgd : Q[k] = Q.getD k (0, 0) := by simp [List.getD, hlt]
      rw [hgd] at q0 q1
      have q0 := (HB.out.cell (p := ⟨b1, off + (k * 2 + 0), none⟩) hb1).trans q0
      have q1 := (HB.out.cell (p := ⟨b1, off + (k * 2 + 1), none⟩) hb1).trans q1
      have HT := Lib.hid (take_one_more (d := ((0, 0) : DemV)) hlt)
      have hin := HQ.out (Q.getD k (0, 0)) (by simp [List.getD, hlt])
      have HY : Hid ((!demQ x (Q.getD k (0, 0))) = true → FirstAt (fun q => !demQ x q) Q (0, 0) k) := Lib.hid (fun h => Or.inr ⟨k, rfl, hlt, h, HN.out⟩)
      have HT2 : Hid ((!demQ x (Q.getD k (0, 0))) = false → ∀ y ∈ Q.take (k + 1), (!demQ x y) = false) := Lib.hid (fun hne y hy => by
        rw [HT.out] at hy
        rcases List.mem_append.1 hy with h | h
        · exact HN.out y h
        · rw [List.mem_singleton.1 h]; exact hne)
      obtain ⟨⟨p, S⟩, hy⟩ : ∃ y, y = Q.getD k (0, 0) := ⟨_, rfl⟩
      rw [← hy] at q0 q1 hin HY HT2
      have q0 : wr.cell? ⟨b1, off + k * 2, none⟩ = some (.int .i64 (p : Int)) := q0
      have q1 : wr.cell? ⟨b1, off + k * 2 + 1, none⟩ = some (.int .u64 (S : Int)) := q1
      clear hy HT hgd
      have HCL := Lib.hid (fun w h h' => hs1_any p S x HWD.out hin.1 hin.2 b w h h')
      obtain ⟨t, ht⟩ : ∃ t, t = (!demQ x (p, S)) := ⟨_, rfl⟩
      rw [← ht] at HCL HY HT2
      clear ht hin
      cases t with
      | true =>
        have HG := Lib.hid (HY.out rfl)
        clear HY HT2
        go_wp2_with (go_at_call 68; refine (HCL.out _ (HK.out _ HB.out).1 (HK.out _ HB.out).2).mono ?_; rintro e w3 ⟨rfl, b3⟩; have HB3 := Lib.hid (HB.out.trans (b3.mono HB.out.size)); clear b3)
        go_ret
        exact ⟨_, HG.out, rfl, HB3.out⟩
      | false =>
        have HN2 := Lib.hid (HT2.out rfl)
        clear HY HT2 HN
        go_wp2_with (go_at_call 68; refine (HCL.out _ (HK.out _ HB.out).1 (HK.out _ HB.out).2).mono ?_; rintro e w3 ⟨rfl, b3⟩; have HB3 := Lib.hid (HB.out.trans (b3.mono HB.out.size)); clear b3)
        go_roundw
        case rel => exact ⟨k + 1, by omega, by go_num, HN2, HB3⟩
        case measure => simp [intOf]; omega
    · have hd : decide ((k : Int) < (Q.length : Int)) = false := decide_eq_false (by omega)
      obtain rfl : k = Q.length := by omega
      have HG : Hid (FirstAt (fun q => !demQ x q) Q (0, 0) (-1)) := Lib.hid (Or.inl ⟨rfl, fun y hy => HN.out y (by rw [List.take_length]; exact hy)⟩)
      go_wp2
      go_ret
      exact ⟨-1, HG.out, rfl, HB.out⟩
theorem hs1_val : ∀ (fn : Fn) (first cap : Array Value) (w : World), (Instr.makeFunc fn first cap).run Try.prog w = .ok (.func fn first cap) w := fun _ _ _ _ => rfl
set_option maxRecDepth 100000 in
set_option maxHeartbeats 1600000 in
theorem ihs_any (x : ByteArray) (n : Int) (Q : List DemV) (hl : Q.length ≤ 16777216) (hq : (x.size : Int) = n → DemOk Q x.size) (v : Value) (w : World) (hv : ReadsV w.heap.size w v 2 Q.length (Q.flatMap cD)) :
    Calls Try.prog 50 #[.string x, .int .i64 n, v] w fun e w' => e = .returned (.bool (okQ x n Q)) ∧ Below w.heap.size w w' := by
  have HOK : Hid (okQ x n Q = (isW x && decide ((x.size : Int) = n) && Q.all (demQ x))) := Lib.hid rfl
  have HIW := Lib.hid (fun w => iiw_any x w)
  have HWB : Hid (Below w.heap.size w (w.alloc (.cells #[.string x] 9))) := Lib.hid ((Below.refl _ _).alloc (Nat.le_refl _) _)
  have HV := Lib.hid hv
  clear hv
  obtain ⟨b, hb⟩ : ∃ b, b = isW x := ⟨_, rfl⟩
  have HBW := Lib.hid hb
  rw [← hb] at HIW HOK
  clear hb
  have hmf := hs1_val
  go_enter Try.func50, Try.ntmps50
  go_wp2_with fail
  obtain ⟨W1, hW1⟩ : ∃ W1, W1 = w.alloc (.cells #[.string x] 9) := ⟨_, rfl⟩
  have HE : Hid (∀ w', Below W1.heap.size W1 w' → w.heap.size < w'.heap.size ∧ w'.cell? ⟨w.heap.size, 0, none⟩ = some (.string x)) := Lib.hid (fun w' h => by
    have hz : w.heap.size < W1.heap.size := by rw [hW1]; simp
    exact ⟨Nat.lt_of_lt_of_le hz h.size, (h.cell (p := ⟨w.heap.size, 0, none⟩) hz).trans (by rw [hW1]; simp)⟩)
  rw [← hW1] at HWB ⊢
  clear hW1
  obtain ⟨-, e0⟩ := HE.out _ (Below.refl _ _)
  cases b with
  | false =>
    go_wp2_with (go_at_call 66; refine (HIW.out _).mono ?_; rintro e w2 ⟨rfl, b2⟩; have HB2 := Lib.hid (HWB.out.trans (b2.mono HWB.out.size)); clear b2)
    go_ret
    exact ⟨by rw [HOK.out]; rfl, HB2.out⟩
  | true =>
    have hsz8 := (word_of HBW.out.symm).2.1
    by_cases hn : (x.size : Int) = n
    · subst hn
      have hnn : ((x.size : Int) != (x.size : Int)) = false := bne_self_eq_false _
      have HQ := Lib.hid (hq rfl)
      have HCF : Hid (∀ W, Below W1.heap.size W1 W → Calls Try.prog 67 #[v, .func (.func 68) #[] #[.pointer (some ⟨w.heap.size, 0, none⟩)]] W fun e w' => e = .returned (.bool (!Q.all (demQ x))) ∧ Below W.heap.size W w') := Lib.hid (fun W hW => by
        have HI := Lib.hid (idxD_any Q hl x HBW.out.symm HQ.out w.heap.size v W (HE.out W hW).1 (HE.out W hW).2 (ReadsV.now HV.out (HWB.out.trans (hW.mono HWB.out.size))))
        have HA : Hid (∀ r, FirstAt (fun q => !demQ x q) Q (0, 0) r → decide (0 ≤ r) = !Q.all (demQ x)) := Lib.hid (fun r h => by rw [h.any, List.not_all_eq_any_not])
        clear hW hmf hq
        go_enter Try.func67, Try.ntmps67
        go_wp2_with (go_at_call 79; refine HI.out.mono ?_; rintro e w1 ⟨r, hr, rfl, b1⟩; have HR := Lib.hid (HA.out r hr); have HB1 := Lib.hid b1; clear hr b1)
        go_ret
        exact ⟨by rw [← HR.out]; rfl, HB1.out⟩)
      have HF : Hid (okQ x (x.size : Int) Q = Q.all (demQ x)) := Lib.hid (by rw [HOK.out]; simp)
      obtain ⟨t, ht⟩ : ∃ t, t = Q.all (demQ x) := ⟨_, rfl⟩
      rw [← ht] at HCF HF
      clear ht hq
      go_wp2_with (first | (go_at_call 66; refine (HIW.out _).mono ?_; rintro e w2 ⟨rfl, b2⟩; have HB2 := Lib.hid b2; obtain ⟨-, e2⟩ := HE.out _ HB2.out; clear b2) | (go_at_call 67; refine (HCF.out _ HB2.out).mono ?_; rintro e w3 ⟨rfl, b3⟩; have HB3 := Lib.hid (HB2.out.trans (b3.mono HB2.out.size)); clear b3))
      go_ret
      exact ⟨by rw [HF.out]; cases t <;> rfl, HWB.out.trans (HB3.out.mono HWB.out.size)⟩
    · have hnn : ((x.size : Int) != n) = true := bne_iff_ne.2 hn
      have hne : ((x.size : Int) == n) = false := beq_eq_false_iff_ne.2 hn
      have HF : Hid (okQ x n Q = false) := Lib.hid (by rw [HOK.out, decide_eq_false hn]; rfl)
      clear hn hq
      go_wp2_with (go_at_call 66; refine (HIW.out _).mono ?_; rintro e w2 ⟨rfl, b2⟩; have HB2 := Lib.hid b2; obtain ⟨-, e2⟩ := HE.out _ HB2.out; clear b2)
      go_ret
      exact ⟨by rw [HF.out]; rfl, HWB.out.trans (HB2.out.mono HWB.out.size)⟩
end Go.Proofs.Ytmhgejljjjmejaa
