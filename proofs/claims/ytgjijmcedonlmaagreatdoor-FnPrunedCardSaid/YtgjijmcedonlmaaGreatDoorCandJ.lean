/-
  has of the program's sets of letters.
  The program's hasSupport: its closure, slices.ContainsFunc at demands.
  The program's candidates: demands, candidatesOf, Support.
  The program's candidatesOf.
-/
import Derived.Test.YtgjijmcedonlmaaGreatDoorLset
import Derived.Test.YtgjijmcedonlmaaGreatDoorSlF
import Derived.Test.YtgjijmcedonlmaaGreatDoorDomT
import Derived.Test.YtgjijmcedonlmaaGreatDoorCrossImplC
import Derived.Test.YtgjijmcedonlmaaGreatDoorSlotImplI
import Derived.Deep.RegionWith
import Derived.Deep.RegionHeld3
import Derived.Deep.RegionLaw
namespace Go.Proofs.YtgjijmcedonlmaaGreatDoor
open Go.RowKit

theorem hasL_any (S k : Nat) (hS : S < 67108864) (hk : k < 26) (w : World) :
    Calls Tryz.prog 56 #[.int .u64 (S : Int), .int .u8 (k : Int)] w fun e w' => e = .returned (.bool (S.testBit k)) ∧ w = w' := by
  have hb : (bits .and .u64 ((S : Int) / 2 ^ k) 1 == 1) = S.testBit k := by
    have hd : S / 2 ^ k < 18446744073709551616 := Nat.lt_of_le_of_lt (Nat.div_le_self _ _) (by omega)
    rw [show (S : Int) / 2 ^ k = ((S / 2 ^ k : Nat) : Int) by simp, show (1 : Int) = ((1 : Nat) : Int) by rfl, bits_and_u64_nat _ 1 hd (by decide), Nat.and_one_is_mod, Nat.testBit_eq_decide_div_mod_eq]
    generalize S / 2 ^ k % 2 = X
    by_cases e : X = 1
    · rw [e]; rfl
    · rw [decide_eq_false e]; exact beq_eq_false_iff_ne.2 (by omega)
  rw [← hb]
  clear hb hS
  go_enter Tryz.func56, Tryz.ntmps56
  go_wp2
  go_ret
  exact ⟨rfl, rfl⟩
end Go.Proofs.YtgjijmcedonlmaaGreatDoor
namespace Go.Proofs.YtgjijmcedonlmaaGreatDoor
open Go.RowKit

abbrev DemV := Nat × Nat
def cD (q : DemV) : List Value := [.int .i64 (q.1 : Int), .int .u64 (q.2 : Int)]
theorem cD_length (q : DemV) : (cD q).length = 2 := rfl
theorem cD_one (l : List DemV) : ∀ u ∈ l.flatMap cD, u.oneCell' = true := by
  intro u hu
  obtain ⟨z, -, hz⟩ := List.mem_flatMap.1 hu
  simp only [cD, List.mem_cons, List.not_mem_nil, or_false] at hz
  rcases hz with rfl | rfl <;> rfl
/-- A letter of a word as a number from 0 on. -/
def ltN (x : ByteArray) (p : Nat) : Nat := (x.data.toList.getD p 0).toNat - 97
def demQ (x : ByteArray) (q : DemV) : Bool := q.2.testBit (ltN x q.1)
/-- What hasSupport tells. -/
def okQ (x : ByteArray) (n : Int) (Q : List DemV) : Bool := isW x && decide ((x.size : Int) = n) && Q.all (demQ x)
theorem lt_word {x : ByteArray} (h : isW x = true) {p : Nat} (hp : p < x.size) : x[p].toNat = 97 + ltN x p ∧ ltN x p < 26 := by
  have h1 := (word_of h).2.2 _ (byte_mem x p hp)
  have h2 := getD_byte x p hp
  have h3 := h1.1
  have h4 := h1.2
  unfold ltN
  rw [h2]
  omega
set_option maxRecDepth 100000 in
set_option maxHeartbeats 1600000 in
/-- The closure: whether a demand is not met by the word that it captured. -/
theorem hs1_any (p S : Nat) (x : ByteArray) (hw : isW x = true) (hp : p < x.size) (hS : S < 67108864) (b : Nat) (w : World) (hb : b < w.heap.size) (hc : w.cell? ⟨b, 0, none⟩ = some (.string x)) :
    Calls Tryz.prog 55 #[.agg #[.int .i64 p, .int .u64 S], .pointer (some ⟨b, 0, none⟩)] w fun e w' => e = .returned (.bool (!demQ x (p, S))) ∧ Below w.heap.size w w' := by
  obtain ⟨h1, h2⟩ := lt_word hw hp
  have HQ : Hid (demQ x (p, S) = S.testBit (ltN x p)) := Lib.hid rfl
  have hsz8 := (word_of hw).2.1
  obtain ⟨c, hcc⟩ : ∃ c, c = ltN x p := ⟨_, rfl⟩
  rw [← hcc] at h1 h2 HQ
  have h255 : x[p].toNat ≤ 255 := by omega
  have hwr : IntKind.u8.wrap ((x[p].toNat : Int) - 97) = (c : Int) := by rw [h1]; rw [show (((97 + c : Nat) : Int) - 97) = (c : Int) by omega]; exact IntWalk.u8_in _ (by omega)
  have HHS := Lib.hid (fun w => hasL_any S c hS h2 w)
  obtain ⟨t, ht⟩ : ∃ t, t = S.testBit c := ⟨_, rfl⟩
  rw [← ht] at HHS HQ
  have HW : Hid (Below w.heap.size w (w.alloc (.cells #[.int .i64 p, .int .u64 S] 121))) := Lib.hid ((Below.refl _ _).alloc (Nat.le_refl _) _)
  clear hcc ht h1 hw
  go_enter Tryz.func55, Tryz.ntmps55
  go_wp2_with fail
  obtain ⟨W1, hW1⟩ : ∃ W1, W1 = w.alloc (.cells #[.int .i64 p, .int .u64 S] 121) := ⟨_, rfl⟩
  have e0 : W1.cell? ⟨w.heap.size, 0, none⟩ = some (.int .i64 p) := by rw [hW1]; simp
  have e1 : W1.cell? ⟨w.heap.size, 1, none⟩ = some (.int .u64 S) := by rw [hW1]; simp
  rw [← hW1] at HW ⊢
  clear hW1
  have e4 := (HW.out.cell (p := ⟨b, 0, none⟩) hb).trans hc
  go_quiet (first | (go_at_call 56; exact (HHS.out _).mono fun _ _ h => ⟨h.1, ⟨_, h.2.symm⟩⟩))
  all_goals go_wp2
  all_goals go_ret
  all_goals exact ⟨by rw [HQ.out]; rfl, by first | exact HW.out | exact HW.out.trans ((Joins.below_draws _ _ _).mono HW.out.size)⟩
/-- What the demands keep to. -/
def DemOk (Q : List DemV) (size : Nat) : Prop := ∀ q ∈ Q, q.1 < size ∧ q.2 < 67108864
theorem all_take {α : Type} {p : α → Bool} {l : List α} (h : ∀ y ∈ l, p y = true) : l.all p = true := List.all_eq_true.2 h
set_option maxRecDepth 100000 in
set_option maxHeartbeats 1600000 in
theorem idxD_any (Q : List DemV) (hl : Q.length ≤ 16777216) (x : ByteArray) (hw : isW x = true) (hq : DemOk Q x.size) (b : Nat) (v : Value) (w : World) (hb : b < w.heap.size) (hcb : w.cell? ⟨b, 0, none⟩ = some (.string x)) (hv : ReadsV w.heap.size w v 2 Q.length (Q.flatMap cD)) :
    Calls Tryz.prog 93 #[v, .func (.func 55) #[] #[.pointer (some ⟨b, 0, none⟩)]] w fun e w' => ∃ r, FirstAt (fun q => !demQ x q) Q (0, 0) r ∧ e = .returned (.int .i64 r) ∧ Below w.heap.size w w' := by
  have HAT := Lib.hid (row0_at cD 2 cD_length Q)
  obtain ⟨-, -, a0, cap, rfl, -, hc⟩ := hv
  have HC := Lib.hid hc
  have HQ := Lib.hid hq
  have HWD := Lib.hid hw
  have HK : Hid (∀ w', Below w.heap.size w w' → b < w'.heap.size ∧ w'.cell? ⟨b, 0, none⟩ = some (.string x)) := Lib.hid (fun w' h => ⟨Nat.lt_of_lt_of_le hb h.size, (h.cell (p := ⟨b, 0, none⟩) hb).trans hcb⟩)
  clear hc hq hw hb hcb
  go_enter Tryz.func93, Tryz.ntmps93
  go_wp2
  go_loopw [8] (fun i wr => ∃ k : Nat, k ≤ Q.length ∧ i = .int .i64 k ∧ Hid (∀ y ∈ Q.take k, (!demQ x y) = false) ∧ Hid (Below w.heap.size w wr)) (fun i _ => Q.length - (intOf i).toNat)
  case atStart => exact ⟨0, Nat.zero_le _, rfl, Lib.hid (by simp), Lib.hid (Below.refl _ _)⟩
  case round =>
    obtain ⟨k, hk, rfl, HN, HB⟩ := hrel
    by_cases hlt : k < Q.length
    · have hd : decide ((k : Int) < (Q.length : Int)) = true := decide_eq_true (by omega)
      obtain ⟨b1, off, e1, hb1, q0⟩ := HC.out (k * 2 + 0) (by omega)
      obtain ⟨b2, off2, e2, hb2, q1⟩ := HC.out (k * 2 + 1) (by omega)
      subst e1
      injection e2 with e2
      injection e2 with e3 e4
      subst e3 e4
      rw [HAT.out k hlt 0 (by decide)] at q0
      rw [HAT.out k hlt 1 (by decide)] at q1
      have hgd : Q[k] = Q.getD k (0, 0) := by simp [List.getD, hlt]
      rw [hgd] at q0 q1
      have q0 := (HB.out.cell (p := ⟨b1, off + (k * 2 + 0), none⟩) hb1).trans q0
      have q1 := (HB.out.cell (p := ⟨b1, off + (k * 2 + 1), none⟩) hb1).trans q1
      have HT := Lib.hid (take_one_more (d := ((0, 0) : DemV)) hlt)
      have hin := HQ.out (Q.getD k (0, 0)) (by simp [List.getD, hlt])
      have HY : Hid ((!demQ x (Q.getD k (0, 0))) = true → FirstAt (fun q => !demQ x q) Q (0, 0) k) := Lib.hid (fun h => Or.inr ⟨k, rfl, hlt, h, HN.out⟩)
      have HT2 : Hid ((!demQ x (Q.getD k (0, 0))) = false → ∀ y ∈ Q.take (k + 1), (!demQ x y) = false) := Lib.hid (fun hne y hy => by
        rw [HT.out] at hy
        rcases List.mem_append.1 hy with h | h
        · exact HN.out y h
        · rw [List.mem_singleton.1 h]; exact hne)
      obtain ⟨⟨p, S⟩, hy⟩ : ∃ y, y = Q.getD k (0, 0) := ⟨_, rfl⟩
      rw [← hy] at q0 q1 hin HY HT2
      have q0 : wr.cell? ⟨b1, off + k * 2, none⟩ = some (.int .i64 (p : Int)) := q0
      have q1 : wr.cell? ⟨b1, off + k * 2 + 1, none⟩ = some (.int .u64 (S : Int)) := q1
      clear hy HT hgd
      have HCL := Lib.hid (fun w h h' => hs1_any p S x HWD.out hin.1 hin.2 b w h h')
      obtain ⟨t, ht⟩ : ∃ t, t = (!demQ x (p, S)) := ⟨_, rfl⟩
      rw [← ht] at HCL HY HT2
      clear ht hin
      cases t with
      | true =>
        have HG := Lib.hid (HY.out rfl)
        clear HY HT2
        go_wp2_with (go_at_call 55; refine (HCL.out _ (HK.out _ HB.out).1 (HK.out _ HB.out).2).mono ?_; rintro e w3 ⟨rfl, b3⟩; have HB3 := Lib.hid (HB.out.trans (b3.mono HB.out.size)); clear b3)
        go_ret
        exact ⟨_, HG.out, rfl, HB3.out⟩
      | false =>
        have HN2 := Lib.hid (HT2.out rfl)
        clear HY HT2 HN
        go_wp2_with (go_at_call 55; refine (HCL.out _ (HK.out _ HB.out).1 (HK.out _ HB.out).2).mono ?_; rintro e w3 ⟨rfl, b3⟩; have HB3 := Lib.hid (HB.out.trans (b3.mono HB.out.size)); clear b3)
        go_roundw
        case rel => exact ⟨k + 1, by omega, by go_num, HN2, HB3⟩
        case measure => simp [intOf]; omega
    · have hd : decide ((k : Int) < (Q.length : Int)) = false := decide_eq_false (by omega)
      obtain rfl : k = Q.length := by omega
      have HG : Hid (FirstAt (fun q => !demQ x q) Q (0, 0) (-1)) := Lib.hid (Or.inl ⟨rfl, fun y hy => HN.out y (by rw [List.take_length]; exact hy)⟩)
      go_wp2
      go_ret
      exact ⟨-1, HG.out, rfl, HB.out⟩
theorem hs1_val : ∀ (fn : Fn) (first cap : Array Value) (w : World), (Instr.makeFunc fn first cap).run Tryz.prog w = .ok (.func fn first cap) w := fun _ _ _ _ => rfl
set_option maxRecDepth 100000 in
set_option maxHeartbeats 1600000 in
theorem ihs_any (x : ByteArray) (n : Int) (Q : List DemV) (hl : Q.length ≤ 16777216) (hq : (x.size : Int) = n → DemOk Q x.size) (v : Value) (w : World) (hv : ReadsV w.heap.size w v 2 Q.length (Q.flatMap cD)) :
    Calls Tryz.prog 27 #[.string x, .int .i64 n, v] w fun e w' => e = .returned (.bool (okQ x n Q)) ∧ Below w.heap.size w w' := by
  have HOK : Hid (okQ x n Q = (isW x && decide ((x.size : Int) = n) && Q.all (demQ x))) := Lib.hid rfl
  have HIW := Lib.hid (fun w => iiw_any x w)
  have HWB : Hid (Below w.heap.size w (w.alloc (.cells #[.string x] 9))) := Lib.hid ((Below.refl _ _).alloc (Nat.le_refl _) _)
  have HV := Lib.hid hv
  clear hv
  obtain ⟨b, hb⟩ : ∃ b, b = isW x := ⟨_, rfl⟩
  have HBW := Lib.hid hb
  rw [← hb] at HIW HOK
  clear hb
  have hmf := hs1_val
  go_enter Tryz.func27, Tryz.ntmps27
  go_wp2_with fail
  obtain ⟨W1, hW1⟩ : ∃ W1, W1 = w.alloc (.cells #[.string x] 9) := ⟨_, rfl⟩
  have HE : Hid (∀ w', Below W1.heap.size W1 w' → w.heap.size < w'.heap.size ∧ w'.cell? ⟨w.heap.size, 0, none⟩ = some (.string x)) := Lib.hid (fun w' h => by
    have hz : w.heap.size < W1.heap.size := by rw [hW1]; simp
    exact ⟨Nat.lt_of_lt_of_le hz h.size, (h.cell (p := ⟨w.heap.size, 0, none⟩) hz).trans (by rw [hW1]; simp)⟩)
  rw [← hW1] at HWB ⊢
  clear hW1
  obtain ⟨-, e0⟩ := HE.out _ (Below.refl _ _)
  cases b with
  | false =>
    go_wp2_with (go_at_call 53; refine (HIW.out _).mono ?_; rintro e w2 ⟨rfl, b2⟩; have HB2 := Lib.hid (HWB.out.trans (b2.mono HWB.out.size)); clear b2)
    go_ret
    exact ⟨by rw [HOK.out]; rfl, HB2.out⟩
  | true =>
    have hsz8 := (word_of HBW.out.symm).2.1
    by_cases hn : (x.size : Int) = n
    · subst hn
      have hnn : ((x.size : Int) != (x.size : Int)) = false := bne_self_eq_false _
      have HQ := Lib.hid (hq rfl)
      have HCF : Hid (∀ W, Below W1.heap.size W1 W → Calls Tryz.prog 54 #[v, .func (.func 55) #[] #[.pointer (some ⟨w.heap.size, 0, none⟩)]] W fun e w' => e = .returned (.bool (!Q.all (demQ x))) ∧ Below W.heap.size W w') := Lib.hid (fun W hW => by
        have HI := Lib.hid (idxD_any Q hl x HBW.out.symm HQ.out w.heap.size v W (HE.out W hW).1 (HE.out W hW).2 (ReadsV.now HV.out (HWB.out.trans (hW.mono HWB.out.size))))
        have HA : Hid (∀ r, FirstAt (fun q => !demQ x q) Q (0, 0) r → decide (0 ≤ r) = !Q.all (demQ x)) := Lib.hid (fun r h => by rw [h.any, List.not_all_eq_any_not])
        clear hW hmf hq
        go_enter Tryz.func54, Tryz.ntmps54
        go_wp2_with (go_at_call 93; refine HI.out.mono ?_; rintro e w1 ⟨r, hr, rfl, b1⟩; have HR := Lib.hid (HA.out r hr); have HB1 := Lib.hid b1; clear hr b1)
        go_ret
        exact ⟨by rw [← HR.out]; rfl, HB1.out⟩)
      have HF : Hid (okQ x (x.size : Int) Q = Q.all (demQ x)) := Lib.hid (by rw [HOK.out]; simp)
      obtain ⟨t, ht⟩ : ∃ t, t = Q.all (demQ x) := ⟨_, rfl⟩
      rw [← ht] at HCF HF
      clear ht hq
      go_wp2_with (first | (go_at_call 53; refine (HIW.out _).mono ?_; rintro e w2 ⟨rfl, b2⟩; have HB2 := Lib.hid b2; obtain ⟨-, e2⟩ := HE.out _ HB2.out; clear b2) | (go_at_call 54; refine (HCF.out _ HB2.out).mono ?_; rintro e w3 ⟨rfl, b3⟩; have HB3 := Lib.hid (HB2.out.trans (b3.mono HB2.out.size)); clear b3))
      go_ret
      exact ⟨by rw [HF.out]; cases t <;> rfl, HWB.out.trans (HB3.out.mono HWB.out.size)⟩
    · have hnn : ((x.size : Int) != n) = true := bne_iff_ne.2 hn
      have hne : ((x.size : Int) == n) = false := beq_eq_false_iff_ne.2 hn
      have HF : Hid (okQ x n Q = false) := Lib.hid (by rw [HOK.out, decide_eq_false hn]; rfl)
      clear hn hq
      go_wp2_with (go_at_call 53; refine (HIW.out _).mono ?_; rintro e w2 ⟨rfl, b2⟩; have HB2 := Lib.hid b2; obtain ⟨-, e2⟩ := HE.out _ HB2.out; clear b2)
      go_ret
      exact ⟨by rw [HF.out]; rfl, HWB.out.trans (HB2.out.mono HWB.out.size)⟩
end Go.Proofs.YtgjijmcedonlmaaGreatDoor
namespace Go.Proofs.YtgjijmcedonlmaaGreatDoor
open Go.RowKit

/-- The cells of a meeting. -/
def cM (m : Nat × Nat × Nat) : List Value := [.int .i64 (m.1 : Int), .int .i64 (m.2.1 : Int), .int .i64 (m.2.2 : Int)]
theorem cM_length (m : Nat × Nat × Nat) : (cM m).length = 3 := rfl
theorem cM_one (m : Nat × Nat × Nat) : ∀ u ∈ cM m, u.oneCell' = true := by
  intro u hu
  simp only [cM, List.mem_cons, List.not_mem_nil, or_false] at hu
  rcases hu with rfl | rfl | rfl <;> rfl
/-- A slice of slices, elements of s cells, that reads as a list of lists. -/
def ReadsL {α : Type} (f : α → List Value) (s : Nat) (B : Nat) (W : World) (v : Value) (L : List (List α)) : Prop :=
  ∃ us : List Value, ReadsV B W v 1 L.length us ∧ ∀ j, j < L.length → ReadsV B W (us.getD j undef) s (L.getD j []).length ((L.getD j []).flatMap f)
theorem ReadsL.now {α : Type} {f : α → List Value} {s : Nat} {W W' : World} {v : Value} {L : List (List α)} (h : ReadsL f s W.heap.size W v L) (hb : Below W.heap.size W W') : ReadsL f s W'.heap.size W' v L := by
  obtain ⟨us, h1, h2⟩ := h
  exact ⟨us, ReadsV.now h1 hb, fun j hj => ReadsV.now (h2 j hj) hb⟩
theorem ReadsL.cells {α : Type} {f : α → List Value} {s : Nat} {B : Nat} {W : World} {v : Value} {L : List (List α)} (h : ReadsL f s B W v L) :
    ∃ a0 cap, v = .slice a0 L.length cap ∧ ∀ j, j < L.length → ∃ b off u, a0 = some ⟨b, off, none⟩ ∧ b < B ∧ W.cell? ⟨b, off + j, none⟩ = some u ∧ ReadsV B W u s (L.getD j []).length ((L.getD j []).flatMap f) := by
  obtain ⟨us, ⟨h0, hx, a0, cap, rfl, hc, h⟩, hi⟩ := h
  refine ⟨a0, cap, rfl, fun j hj => ?_⟩
  obtain ⟨b, off, e1, e2, e3⟩ := h j (by omega)
  have hj' : j < us.length := by omega
  refine ⟨b, off, us.getD j undef, e1, e2, ?_, hi j hj⟩
  rw [e3]
  simp [List.getD, hj']
theorem readsL_own {α : Type} {f : α → List Value} {s : Nat} {eo ei : TypeId} {W : World} {base top : Nat} {v : Value} {us : List Value} {L : List (List α)} (h : OwnN f s eo ei W base top v us L) (hl : L.length ≤ 140737488355328) (hm : ∀ m ∈ L, m.length ≤ 140737488355328) : ReadsL f s W.heap.size W v L :=
  ⟨us, readsV_own h.row hl, fun j hj => readsV_own (h.inner j hj) (hm _ (by simp [List.getD, hj]))⟩
/-- The demands of some meetings. -/
def demsOf (D : List (List ByteArray)) (M : List (Nat × Nat × Nat)) : List DemV := M.map fun m => (m.1, lsS (D.getD m.2.1 []) (m.2.2 : Int))
theorem demsOf_snoc (D : List (List ByteArray)) (M : List (Nat × Nat × Nat)) (m : Nat × Nat × Nat) : demsOf D (M ++ [m]) = demsOf D M ++ [(m.1, lsS (D.getD m.2.1 []) (m.2.2 : Int))] := by simp [demsOf]
theorem demsOf_length (D : List (List ByteArray)) (M : List (Nat × Nat × Nat)) : (demsOf D M).length = M.length := by simp [demsOf]
theorem info_dem : (Tryz.prog.info? 121).map (fun i => (i.zero, i.size, i.bytes)) = some (some (.agg #[.int .i64 0, .int .u64 0]), 2, 16) := by kernel_rfl
theorem row3_cells {B : Nat} {W : World} {v : Value} {M : List (Nat × Nat × Nat)} (h : ReadsV B W v 3 M.length (M.flatMap cM)) :
    ∃ a0 cap, v = .slice a0 M.length cap ∧ ∀ k, k < M.length → ∃ b off, a0 = some ⟨b, off, none⟩ ∧ b < B ∧ W.cell? ⟨b, off + k * 3, none⟩ = some (.int .i64 ((M.getD k (0, 0, 0)).1 : Int)) ∧ W.cell? ⟨b, off + k * 3 + 1, none⟩ = some (.int .i64 ((M.getD k (0, 0, 0)).2.1 : Int)) ∧ W.cell? ⟨b, off + k * 3 + 2, none⟩ = some (.int .i64 ((M.getD k (0, 0, 0)).2.2 : Int)) := by
  obtain ⟨-, -, a0, cap, rfl, -, hc⟩ := h
  refine ⟨a0, cap, rfl, fun k hk => ?_⟩
  obtain ⟨b1, off, e1, hb1, q0⟩ := hc (k * 3 + 0) (by omega)
  obtain ⟨b2, off2, e2, hb2, q1⟩ := hc (k * 3 + 1) (by omega)
  obtain ⟨b3, off3, e3, hb3, q2⟩ := hc (k * 3 + 2) (by omega)
  subst e1
  injection e2 with e2
  injection e2 with e4 e5
  injection e3 with e3
  injection e3 with e6 e7
  subst e4 e5 e6 e7
  rw [row0_at cM 3 cM_length M k hk 0 (by decide)] at q0
  rw [row0_at cM 3 cM_length M k hk 1 (by decide)] at q1
  rw [row0_at cM 3 cM_length M k hk 2 (by decide)] at q2
  have hgd : M[k] = M.getD k (0, 0, 0) := by simp [List.getD, hk]
  rw [hgd] at q0 q1 q2
  exact ⟨b1, off, rfl, hb1, q0, q1, q2⟩
theorem cD_one1 (q : DemV) : ∀ u ∈ cD q, u.oneCell' = true := by
  intro u hu
  simp only [cD, List.mem_cons, List.not_mem_nil, or_false] at hu
  rcases hu with rfl | rfl <;> rfl
theorem oneD (w : World) (q : DemV) (t : TypeId) : ∀ j, j < 1 * 2 → ∃ b off, some (⟨w.heap.size, 0, none⟩ : Addr) = some ⟨b, off, none⟩ ∧ (w.alloc (.cells #[.int .i64 (q.1 : Int), .int .u64 (q.2 : Int)] t)).cell? ⟨b, off + j, none⟩ = (cD q)[j]? := fun j hj => by
  refine ⟨w.heap.size, 0, rfl, ?_⟩
  rw [Nat.zero_add]
  rcases j with _ | _ | j
  · simp [cD]
  · simp [cD]
  · omega
set_option maxRecDepth 100000 in
set_option maxHeartbeats 3200000 in
/-- demands. -/
theorem idem_any (sv : Value) (MM : List (List (Nat × Nat × Nat))) (D : List (List ByteArray)) (slot : Nat) (hslot : slot < MM.length) (hlen : (MM.getD slot []).length ≤ 16777216) (hin : ∀ m ∈ MM.getD slot [], m.2.1 < D.length)
    (hm : ∀ m ∈ D, m.length ≤ 1048576 ∧ ∀ z ∈ m, z.size ≤ 1048576) (hsv : ∃ a n c, sv = .slice a n c) (mv dv : Value) (w : World) (hmv : ReadsL cM 3 w.heap.size w mv MM) (hdv : ReadsN w.heap.size w dv D) :
    Calls Tryz.prog 28 #[.agg #[sv, mv, dv], .int .i64 slot] w fun e w' => ∃ v', e = .returned v' ∧ w'.ownsRow w.heap.size 121 2 v' (MM.getD slot []).length ((demsOf D (MM.getD slot [])).flatMap cD) ∧ Below w.heap.size w w' := by
  obtain ⟨i0, hi, hz0, hz1, hz2⟩ := info_parts info_dem
  obtain ⟨av, nv, cv, rfl⟩ := hsv
  obtain ⟨am, capm, rfl, hcm⟩ := hmv.cells
  obtain ⟨-, ad, capd, rfl, -, hcd⟩ := hdv.cells
  obtain ⟨bm, om, um, rfl, hbm, cm, hum⟩ := hcm slot hslot
  obtain ⟨M, hM⟩ : ∃ M, M = MM.getD slot [] := ⟨_, rfl⟩
  rw [← hM] at hlen hin hum ⊢
  obtain ⟨au, capu, rfl, hcu⟩ := row3_cells hum
  have HU := Lib.hid hcu
  have HCD := Lib.hid hcd
  have HIN := Lib.hid hin
  have HM := Lib.hid hm
  clear hM hcm hmv hdv hcd hcu hum hin hm
  go_enter Tryz.func28, Tryz.ntmps28
  go_wp2_with fail
  obtain ⟨W0, hW0⟩ : ∃ W0, W0 = w.alloc (.cells #[.slice av nv cv, .slice (some ⟨bm, om, none⟩) MM.length capm, .slice ad D.length capd] 50) := ⟨_, rfl⟩
  have hws : W0.heap.size = w.heap.size + 1 := by rw [hW0]; simp
  have HBX : Hid (Below w.heap.size w W0) := Lib.hid (by rw [hW0]; exact (Below.refl _ _).alloc (Nat.le_refl _) _)
  have HC2 : Hid (∀ W, Below W0.heap.size W0 W → W.cell? ⟨w.heap.size, 2, none⟩ = some (.slice ad D.length capd)) := Lib.hid (fun W h => (h.cell (p := ⟨w.heap.size, 2, none⟩) (by show w.heap.size < _; omega)).trans (by rw [hW0]; simp))
  rw [← hW0]
  clear hW0
  have HO0 : Hid ((W0.alloc (.cells #[] 121)).ownsRow W0.heap.size 121 2 (.slice (some ⟨w.heap.size + 1, 0, none⟩) 0 0) 0 []) := Lib.hid (by rw [← hws]; exact own_empty2 W0 _ 2)
  have HB0 := Lib.hid ((Below.refl W0.heap.size W0).alloc (Nat.le_refl _) (.cells #[] 121))
  go_loopw [5, 15] (fun o i wr => ∃ k : Nat, k ≤ M.length ∧ i = .int .i64 (k : Int) ∧ Hid (wr.ownsRow W0.heap.size 121 2 o k ((demsOf D (M.take k)).flatMap cD)) ∧ Hid (Below W0.heap.size W0 wr)) (fun _ i _ => M.length - (intOf i).toNat)
  case atStart => exact ⟨0, Nat.zero_le _, rfl, HO0, HB0⟩
  case round =>
    clear HO0 HB0
    obtain ⟨k, hk, rfl, HO, HB⟩ := hrel
    by_cases hlt : k < M.length
    · have hd : decide ((k : Int) < (M.length : Int)) = true := decide_eq_true (by omega)
      have HBW := Lib.hid (HBX.out.trans (HB.out.mono HBX.out.size))
      obtain ⟨bu, ou, rfl, hbu, q0, q1, q2⟩ := HU.out k hlt
      have q0 := (HBW.out.cell (p := ⟨bu, ou + k * 3, none⟩) hbu).trans q0
      have q1 := (HBW.out.cell (p := ⟨bu, ou + k * 3 + 1, none⟩) hbu).trans q1
      have q2 := (HBW.out.cell (p := ⟨bu, ou + k * 3 + 2, none⟩) hbu).trans q2
      have HT : Hid (demsOf D (M.take (k + 1)) = demsOf D (M.take k) ++ [((M.getD k (0, 0, 0)).1, lsS (D.getD (M.getD k (0, 0, 0)).2.1 []) ((M.getD k (0, 0, 0)).2.2 : Int))]) := Lib.hid (by rw [take_one_more (d := (0, 0, 0)) hlt, demsOf_snoc])
      have hmi := HIN.out (M.getD k (0, 0, 0)) (by simp [List.getD, hlt])
      obtain ⟨⟨at0, sl, at1⟩, hy⟩ : ∃ y, y = M.getD k (0, 0, 0) := ⟨_, rfl⟩
      rw [← hy] at q0 q1 q2 HT hmi
      simp only at q0 q1 q2 HT hmi
      obtain ⟨bd, od, ud, rfl, hbd, cd0, hud⟩ := HCD.out sl hmi
      have HMD := Lib.hid (HM.out (D.getD sl []) (by simp [List.getD, hmi]))
      have HLS : Hid (∀ W, Below wr.heap.size wr W → Calls Tryz.prog 57 #[ud, .int .i64 (at1 : Int)] W fun e w' => e = .returned (.int .u64 ((lsS (D.getD sl []) (at1 : Int) : Nat) : Int)) ∧ Below W.heap.size W w') := Lib.hid (fun W hW => (lset_any (D.getD sl []) at1 (by have := HMD.out.1; omega) ud W (ReadsV.now (ReadsV.now hud HBW.out) hW) HMD.out.2).mono fun _ _ h => ⟨h.1, by rw [← h.2]; exact Below.refl _ _⟩)
      obtain ⟨S, hS⟩ : ∃ S, S = lsS (D.getD sl []) (at1 : Int) := ⟨_, rfl⟩
      rw [← hS] at HLS HT
      obtain ⟨L, hL⟩ : ∃ L, L = demsOf D (M.take k) := ⟨_, rfl⟩
      have hLk : L.length = k := by rw [hL, demsOf_length, List.length_take]; omega
      rw [← hL] at HO HT
      clear hy hS hL hud
      obtain ⟨WA, hWA⟩ : ∃ WA, WA = wr.alloc (.cells #[.int .i64 at0, .int .i64 sl, .int .i64 at1] 90) := ⟨_, rfl⟩
      have HA : Hid (Below wr.heap.size wr WA) := Lib.hid (by rw [hWA]; exact (Below.refl _ _).alloc (Nat.le_refl _) _)
      have hwa : WA.heap.size = wr.heap.size + 1 := by rw [hWA]; simp
      have HS : Hid (∀ W, Below WA.heap.size WA W → ((W.cell? ⟨wr.heap.size, 0, none⟩ = some (.int .i64 (at0 : Int)) ∧ W.cell? ⟨wr.heap.size, 1, none⟩ = some (.int .i64 (sl : Int)) ∧ W.cell? ⟨wr.heap.size, 2, none⟩ = some (.int .i64 (at1 : Int))) ∧ W.cell? ⟨w.heap.size, 2, none⟩ = some (.slice (some ⟨bd, od, none⟩) D.length capd) ∧ W.cell? ⟨bd, od + sl, none⟩ = some ud)) := Lib.hid (fun W h => ⟨⟨(h.cell (p := ⟨wr.heap.size, 0, none⟩) (by show wr.heap.size < _; omega)).trans (by rw [hWA]; simp), (h.cell (p := ⟨wr.heap.size, 1, none⟩) (by show wr.heap.size < _; omega)).trans (by rw [hWA]; simp), (h.cell (p := ⟨wr.heap.size, 2, none⟩) (by show wr.heap.size < _; omega)).trans (by rw [hWA]; simp)⟩,
        HC2.out W (HB.out.trans (HA.out.trans (h.mono HA.out.size) |>.mono HB.out.size)), (((HBW.out.trans (HA.out.trans (h.mono HA.out.size) |>.mono HBW.out.size))).cell (p := ⟨bd, od + sl, none⟩) hbd).trans cd0⟩)
      have HOA := Lib.hid (ownV_later HO.out HA.out)
      have HNE := Lib.hid HO.out.lt
      have hne1 : some wr.heap.size ≠ u5.ownBlock := fun e => by have := HNE.out _ e.symm; omega
      have hne2 : some w.heap.size ≠ u5.ownBlock := fun e => by have := HNE.out _ e.symm; omega
      have hne3 : some bd ≠ u5.ownBlock := fun e => by have := HNE.out _ e.symm; omega
      go_wp2_with fail
      rw [← hWA]
      clear hWA
      have hbn : Below WA.heap.size WA WA := Below.refl _ _
      go_region_held3 (fun W => ((W.cell? ⟨wr.heap.size, 0, none⟩ = some (.int .i64 (at0 : Int)) ∧ W.cell? ⟨wr.heap.size, 1, none⟩ = some (.int .i64 (sl : Int)) ∧ W.cell? ⟨wr.heap.size, 2, none⟩ = some (.int .i64 (at1 : Int))) ∧ W.cell? ⟨w.heap.size, 2, none⟩ = some (.slice (some ⟨bd, od, none⟩) D.length capd) ∧ W.cell? ⟨bd, od + sl, none⟩ = some ud)) (first | exact HS.out _ hbn | exact HS.out _ hbn.drew | exact HS.out _ (hbn.alloc hbn.size _) | exact HS.out _ (hbn.alloc hbn.size _).drew | exact cS) (first | (go_at_call 57; refine Calls.mono (HLS.out _ (by first | exact HA.out.trans (hbn.mono HA.out.size) | exact HA.out.trans (hbn.drew.mono HA.out.size))) ?_; rintro e w3 ⟨rfl, b3⟩; have hbn : Below WA.heap.size WA w3 := (by first | exact hbn.trans (b3.mono hbn.size) | exact hbn.drew.trans (b3.mono hbn.size)); have HO3 := Lib.hid (ownV_later HOA.out hbn); have hz3 : W0.heap.size ≤ w3.heap.size := Nat.le_trans HB.out.size (Nat.le_trans HA.out.size hbn.size); clear b3) | (refine step_appendV rfl (.tmp 19) (.tmp 34) 64 rfl W0.heap.size 121 i0 (.agg #[.int .i64 0, .int .u64 0]) 2 16 Tryz.underlying64 hi hz0 hz1 hz2 rfl (by decide) _ _ _ rfl (HO3.out.alloc _).drew (some ⟨w3.heap.size, 0, none⟩) 1 1 (cD (at0, S)) rfl rfl (cD_one1 _) (fun e => by cases e) (oneD w3 (at0, S) _) (by omega) (by omega) (le_alloc hz3 _) ?_; intro v6 w6 hown hgrow; have hS3 := HS.out _ ((hbn.alloc hbn.size (.cells #[.int .i64 (at0 : Int), .int .u64 (S : Int)] 121)).drew); have cS := And.intro (And.intro (hgrow.cell hS3.1.1 hne1) (And.intro (hgrow.cell hS3.1.2.1 hne1) (hgrow.cell hS3.1.2.2 hne1))) (And.intro (hgrow.cell hS3.2.1 hne2) (hgrow.cell hS3.2.2 hne3)); clear hS3))
      have HB6 := Lib.hid ((((HB.out.trans (HA.out.mono HB.out.size)).trans (hbn.mono (Nat.le_trans HB.out.size HA.out.size))).alloc hz3 (.cells #[.int .i64 (at0 : Int), .int .u64 (S : Int)] 121)).grown hgrow (le_alloc hz3 _) (fun q h => (HNE.out q h).1))
      have HO6 : Hid (w6.ownsRow W0.heap.size 121 2 v6 (k + 1) ((demsOf D (M.take (k + 1))).flatMap cD)) := Lib.hid (by rw [HT.out, List.flatMap_append, List.flatMap_cons, List.flatMap_nil, List.append_nil]; exact hown)
      clear hown hgrow cS hbn HO3
      go_wp2_with fail
      go_roundw
      case rel => exact ⟨k + 1, by omega, by go_num, HO6, HB6⟩
      case measure => simp [intOf]; omega
    · have hd : decide ((k : Int) < (M.length : Int)) = false := decide_eq_false (by omega)
      obtain rfl : k = M.length := by omega
      have HF : Hid (wr.ownsRow w.heap.size 121 2 u5 M.length ((demsOf D M).flatMap cD)) := Lib.hid (by have h9 := HO.out; rw [List.take_length] at h9; exact own_base h9 (by omega))
      go_wp2
      go_ret
      exact ⟨_, rfl, HF.out, HBX.out.trans (HB.out.mono HBX.out.size)⟩
end Go.Proofs.YtgjijmcedonlmaaGreatDoor
namespace Go.Proofs.YtgjijmcedonlmaaGreatDoor
open Go.RowKit

/-- The meetings of all slots by the first crossings. -/
def meetTo (X : List CrossV) (n k : Nat) : List (List (Nat × Nat × Nat)) := (List.range n).map fun s => meetS (X.take k) s
theorem meetTo_length (X : List CrossV) (n k : Nat) : (meetTo X n k).length = n := by simp [meetTo]
theorem meetTo_at (X : List CrossV) (n k : Nat) {s : Nat} (h : s < n) : (meetTo X n k).getD s [] = meetS (X.take k) s := by simp [meetTo, List.getD, h]
theorem meetTo_zero (X : List CrossV) (n : Nat) : meetTo X n 0 = List.replicate n [] := by
  refine List.ext_getElem (by simp [meetTo]) fun i h1 h2 => ?_
  simp [meetTo, meetS]
theorem meetTo_next {X : List CrossV} {n k i j p r q : Nat} (hk : k < X.length) (hx : X.getD k none_Crossing = ((i : Int), (j : Int), (p : Int), (r : Int), (q : Int))) (hij : i < j) :
    meetTo X n (k + 1) = ((meetTo X n k).set i (meetS (X.take k) i ++ [(p, j, r)])).set j (meetS (X.take k) j ++ [(r, i, p)]) := by
  have hT : X.take (k + 1) = X.take k ++ [X.getD k none_Crossing] := by rw [List.take_succ_eq_append_getElem hk]; simp [List.getD, hk]
  refine List.ext_getElem (by simp [meetTo]) fun s h1 h2 => ?_
  have hs : s < n := by simpa [meetTo] using h1
  rw [List.getElem_set, List.getElem_set]
  simp only [meetTo, List.getElem_map, List.getElem_range]
  rw [hT, meetS_next, hx, meetX_parts]
  by_cases e1 : j = s
  · subst e1
    rw [if_pos rfl, if_neg (by omega), if_pos rfl]; rfl
  · rw [if_neg e1, if_neg e1]
    by_cases e2 : i = s
    · subst e2
      rw [if_pos rfl, if_pos rfl, List.append_nil]
    · rw [if_neg e2, if_neg e2, List.append_nil, List.append_nil]
theorem meetS_len (X : List CrossV) (k s : Nat) : (meetS (X.take k) s).length ≤ 2 * X.length := by
  have h : ∀ l : List CrossV, (meetS l s).length ≤ 2 * l.length := by
    intro l
    induction l with
    | nil => simp [meetS]
    | cons a l ih =>
      have h2 : (meetX s a).length ≤ 2 := by unfold meetX; split <;> split <;> simp
      unfold meetS at ih ⊢
      rw [List.flatMap_cons, List.length_append, List.length_cons]
      omega
  have := h (X.take k)
  rw [List.length_take] at this
  omega
theorem info_meet : (Tryz.prog.info? 90).map (fun i => (i.zero, i.size, i.bytes)) = some (some (.agg #[.int .i64 0, .int .i64 0, .int .i64 0]), 3, 24) := by kernel_rfl
theorem info_meets : (Tryz.prog.info? 86).map (fun i => (i.zero, i.size, i.bytes)) = some (some (.slice none 0 0), 1, 24) := by kernel_rfl
theorem oneM (w : World) (m : Nat × Nat × Nat) (t : TypeId) : ∀ j, j < 1 * 3 → ∃ b off, some (⟨w.heap.size, 0, none⟩ : Addr) = some ⟨b, off, none⟩ ∧ (w.alloc (.cells #[.int .i64 (m.1 : Int), .int .i64 (m.2.1 : Int), .int .i64 (m.2.2 : Int)] t)).cell? ⟨b, off + j, none⟩ = (cM m)[j]? := fun j hj => by
  refine ⟨w.heap.size, 0, rfl, ?_⟩
  rw [Nat.zero_add]
  rcases j with _ | _ | _ | j
  · simp [cM]
  · simp [cM]
  · simp [cM]
  · omega
theorem info_cand : (Tryz.prog.info? 50).map (fun i => (i.zero, i.size, i.bytes)) = some (some (.agg #[.slice none 0 0, .slice none 0 0, .slice none 0 0]), 3, 72) := by kernel_rfl
theorem set3_block {W : World} {B : Nat} {a b c x y z : Value} {t : TypeId} (h : W.heap[B]? = some (.cells #[a, b, c] t (0, 0))) : (((W.setCell ⟨B, 0, none⟩ x).setCell ⟨B, 1, none⟩ y).setCell ⟨B, 2, none⟩ z).heap[B]? = some (.cells #[x, y, z] t (0, 0)) := by
  have h1 := Joins.block_setCell (i := 0) h x
  have h2 := Joins.block_setCell (i := 1) h1 y
  have h3 := Joins.block_setCell (i := 2) h2 z
  rw [h3]
  rfl
theorem block3_cells {W : World} {B : Nat} {a b c : Value} {t : TypeId} (h : W.heap[B]? = some (.cells #[a, b, c] t (0, 0))) : (W.cell? ⟨B, 0, none⟩ = some a ∧ W.cell? ⟨B, 1, none⟩ = some b ∧ W.cell? ⟨B, 2, none⟩ = some c) ∧ W.frozen? ⟨B, 0, none⟩ = false ∧ W.frozen? ⟨B, 1, none⟩ = false ∧ W.frozen? ⟨B, 2, none⟩ = false :=
  ⟨⟨Joins.cell_of_block h 0, Joins.cell_of_block h 1, Joins.cell_of_block h 2⟩, Joins.unfrozen_of_block h 0, Joins.unfrozen_of_block h 1, Joins.unfrozen_of_block h 2⟩
theorem set3_below {B b : Nat} {a W : World} (h : Below B a W) (hb : B ≤ b) (x y z : Value) : Below B a (((W.setCell ⟨b, 0, none⟩ x).setCell ⟨b, 1, none⟩ y).setCell ⟨b, 2, none⟩ z) := ((h.setCell (p := ⟨b, 0, none⟩) hb _).setCell (p := ⟨b, 1, none⟩) hb _).setCell (p := ⟨b, 2, none⟩) hb _
theorem set3_other {W : World} {b q : Nat} (hq : q ≠ b) (x y z : Value) : (((W.setCell ⟨b, 0, none⟩ x).setCell ⟨b, 1, none⟩ y).setCell ⟨b, 2, none⟩ z).heap[q]? = W.heap[q]? :=
  (heap_setCell_other _ ⟨b, 2, none⟩ q z hq).trans ((heap_setCell_other _ ⟨b, 1, none⟩ q y hq).trans (heap_setCell_other _ ⟨b, 0, none⟩ q x hq))
/-- A row appended to and stored back. -/
theorem OwnN.appendAt {α : Type} {f : α → List Value} {s : Nat} {eo ei : TypeId} {W W1 W2 : World} {base j g n cap : Nat} {v' : Value} {us : List Value} {L : List (List α)} {m : List α} (h : OwnN f s eo ei W base W.heap.size (.slice (some ⟨g, 0, none⟩) n cap) us L) (hj : j < L.length) (hW1 : Below W.heap.size W W1)
    (hrow : W2.ownsRow base ei s v' m.length (m.flatMap f)) (hg : W1.grownBy W2 (us.getD j undef).ownBlock) (hv : v'.ownBlock = (us.getD j undef).ownBlock ∨ v'.ownBlock = some W1.heap.size) :
    OwnN f s eo ei (W2.setCell ⟨g, j, none⟩ v') base (W2.setCell ⟨g, j, none⟩ v').heap.size (.slice (some ⟨g, 0, none⟩) n cap) (us.set j v') (L.set j m) := by
  have h1 := h.later (Nat.le_refl _) hW1
  obtain rfl := h1.count
  have hgt := h1.topv g rfl
  have hne : ∀ k, v'.ownBlock = some k → k ≠ g := by
    intro k e1 e2
    subst e2
    rcases hv with hv | hv
    · exact h1.apart j hj k rfl (hv ▸ e1)
    · rw [hv] at e1
      injection e1 with e1
      have := hW1.size
      omega
  have ho := ownV_block h1.row (W' := W2) fun k e => hg.block k (h1.row.lt k e).2 (fun e2 => h1.apart j hj k e e2.symm)
  refine h1.put hj (ho.stored j v').1 (ownV_block hrow fun k e => heap_setCell_other W2 ⟨g, j, none⟩ k v' (hne k e)) (fun k h2 h3 _ h5 => ?_) ?_
  · rw [heap_setCell_other W2 ⟨g, j, none⟩ k v' (fun e => h3 (by rw [e]; rfl))]
    exact hg.block k h2 (fun e => h5 e.symm)
  · rcases hv with hv | hv
    · exact .inl hv
    · refine .inr fun k e => ?_
      rw [hv] at e
      injection e with e
      have := hW1.size
      omega
/-- A row that neither an append beside it nor the store of its result touches. -/
theorem row_after {WA w6 : World} {o : Obj} {G i b n z : Nat} {e : TypeId} {u v6 v : Value} {xs : List Value} (h : WA.ownsRow b e z v n xs) (hg : (WA.alloc o).drew.grownBy w6 u.ownBlock) (h1 : v.ownBlock = none ∨ v.ownBlock ≠ u.ownBlock) (h2 : v.ownBlock = none ∨ v.ownBlock ≠ some G) :
    (w6.setCell ⟨G, i, none⟩ v6).ownsRow b e z v n xs :=
  ownV_block ((h.alloc o).drew.kept hg h1) fun q e => heap_setCell_other w6 ⟨G, i, none⟩ q v6 (fun e2 => by
    subst e2
    rcases h2 with h2 | h2
    · rw [h2] at e; cases e
    · exact h2 e)
set_option maxRecDepth 100000 in
set_option maxHeartbeats 3200000 in
theorem icand_any (r c : Int) (s : ByteArray) (n : Nat) (hs : s.size ≤ 4194304) (ad : Option Addr) (capd : Nat) (w : World) :
    Calls Tryz.prog 21 #[.agg #[.int .i64 r, .int .i64 c, .string s], .slice ad n capd] w fun e w' => ∃ sv mv dv, e = .returned (.agg #[sv, mv, dv]) ∧ Below w.heap.size w w' ∧
      ((n ≠ (slG (r, c, s)).length ∧ sv = .slice none 0 0 ∧ mv = .slice none 0 0 ∧ dv = .slice none 0 0) ∨
       (n = (slG (r, c, s)).length ∧ dv = .slice ad n capd ∧ w'.ownsRow w.heap.size 63 4 sv (slG (r, c, s)).length (row_Slot (slG (r, c, s))) ∧ ∃ us, OwnN cM 3 86 90 w' w.heap.size w'.heap.size mv us (meetTo (crossS (r, c, s)) n (crossS (r, c, s)).length))) := by
  obtain ⟨i0, hi, hz0, hz1, hz2⟩ := info_parts info_meet
  obtain ⟨i1, hi1, hy0, hy1, hy2⟩ := info_parts info_meets
  have HSL := Lib.hid (fun w => islo_any r c s hs w)
  have HCR := Lib.hid (fun w => icr_any r c s hs w)
  have HLEN := Lib.hid (slG_length (r, c, s))
  have HCF := Lib.hid (fun x (h : x ∈ crossS (r, c, s)) => cross_facts h)
  have HCL : Hid ((crossS (r, c, s)).length ≤ 36) := Lib.hid (crossS_no_more (r, c, s))
  obtain ⟨l, hl⟩ : ∃ l, l = slG (r, c, s) := ⟨_, rfl⟩
  have HXS : Hid (∀ x ∈ crossS (r, c, s), ∃ i j p q t : Nat, x = ((i : Int), (j : Int), (p : Int), (q : Int), (t : Int)) ∧ i < j ∧ j < l.length) := Lib.hid (fun x hx => by
    obtain ⟨i, j, p, q, t, e, hij, -, hj, -⟩ := HCF.out x hx
    exact ⟨i, j, p, q, t, e, hij, by rw [hl]; exact hj⟩)
  rw [← hl] at HSL HLEN ⊢
  obtain ⟨X, hX⟩ : ∃ X, X = crossS (r, c, s) := ⟨_, rfl⟩
  rw [← hX] at HCR HCL HXS ⊢
  clear hl hX HCF
  have hl72 := HLEN.out
  have hx36 := HCL.out
  go_enter Tryz.func21, Tryz.ntmps21
  go_wp2_with fail
  obtain ⟨W0, hW0⟩ : ∃ W0, W0 = (w.alloc (.cells #[.int .i64 r, .int .i64 c, .string s] 25)).alloc (.cells #[.slice none 0 0, .slice none 0 0, .slice none 0 0] 50) := ⟨_, rfl⟩
  have hws : W0.heap.size = w.heap.size + 2 := by rw [hW0]; simp
  have HBX : Hid (Below w.heap.size w W0) := Lib.hid (by rw [hW0]; exact ((Below.refl _ _).alloc (Nat.le_refl _) _).alloc (by simp) _)
  have HKP : Hid (∀ W, Below W0.heap.size W0 W → (W.cell? ⟨w.heap.size, 0, none⟩ = some (.int .i64 r) ∧ W.cell? ⟨w.heap.size, 1, none⟩ = some (.int .i64 c) ∧ W.cell? ⟨w.heap.size, 2, none⟩ = some (.string s)) ∧ W.heap[w.heap.size + 1]? = some (.cells #[.slice none 0 0, .slice none 0 0, .slice none 0 0] 50 (0, 0))) := Lib.hid (fun W h =>
    ⟨⟨(h.cell (p := ⟨w.heap.size, 0, none⟩) (by show w.heap.size < _; omega)).trans (by rw [hW0]; simp), (h.cell (p := ⟨w.heap.size, 1, none⟩) (by show w.heap.size < _; omega)).trans (by rw [hW0]; simp), (h.cell (p := ⟨w.heap.size, 2, none⟩) (by show w.heap.size < _; omega)).trans (by rw [hW0]; simp)⟩,
    (h.block (w.heap.size + 1) (by omega)).trans (by rw [hW0]; have h9 := heap_alloc_new (w.alloc (.cells #[.int .i64 r, .int .i64 c, .string s] 25)) (.cells #[.slice none 0 0, .slice none 0 0, .slice none 0 0] 50); rw [World.size_alloc] at h9; exact h9)⟩)
  rw [← hW0]
  clear hW0
  obtain ⟨⟨d0, d1, d2⟩, -⟩ := HKP.out _ (Below.refl _ _)
  by_cases h1 : n = l.length
  · subst h1
    have hnn : ((l.length : Int) != (l.length : Int)) = false := bne_self_eq_false _
    go_wp2_with (first | (go_at_call 8; refine (HSL.out _).mono ?_; rintro e w2 ⟨v2, rfl, o2, b2⟩; obtain ⟨a2, cap2, rfl⟩ := ownV_slice o2; have HO2 := Lib.hid o2; have HB2 := Lib.hid b2; clear o2 b2) | (at_make; refine wpList_make_full _ rfl _ _ 48 rfl W0.heap.size 86 i1 (.slice none 0 0) 1 Tryz.underlying48 hi1 hy0 hy1 .i64 .i64 _ _ l.length rfl rfl rfl rfl (by rw [hy2]; omega) (by unfold maxLen; omega) HB2.out.size ?_; intro w3 hown hgrow; have HO3 := Lib.hid (HO2.out.kept hgrow (by cases h : (Value.slice a2 l.length cap2).ownBlock <;> simp)); have HB3 := Lib.hid (HB2.out.grown hgrow HB2.out.size (fun q h => by cases h)); obtain ⟨⟨g0, g1, g2⟩, -⟩ := HKP.out _ HB3.out; have HM3 := Lib.hid hown; have HZ3 := Lib.hid hgrow.size; clear hown hgrow) | (go_at_call 41; refine (HCR.out _).mono ?_; rintro e w4 ⟨v4, rfl, o4, b4⟩; obtain ⟨a4, cap4, rfl⟩ := ownV_slice o4; have HX4 := Lib.hid o4; have HB4 := Lib.hid (HB3.out.trans (b4.mono HB3.out.size)); have HO4 := Lib.hid (ownV_later HO3.out b4); have HM4 := Lib.hid (ownV_later HM3.out b4); clear o4 b4))
    have HN4 : Hid (∃ us, OwnN cM 3 86 90 w4 W0.heap.size w4.heap.size (.slice (some ⟨w2.heap.size, 0, none⟩) l.length l.length) us (meetTo X l.length 0)) := Lib.hid (by
      have h9 := HM4.out
      rw [Nat.mul_one, show (Value.slice none 0 0).cells = #[Value.slice none 0 0] from rfl, toList_madeCells_one] at h9
      rw [meetTo_zero]
      exact ⟨_, OwnN.made h9⟩)
    have HX5 := Lib.hid (own_base HX4.out HB3.out.size)
    clear HM4 HM3 HO3 HX4 g0 g1 g2
    go_loopw [23] (fun i wr => ∃ k : Nat, k ≤ X.length ∧ i = .int .i64 (k : Int) ∧ Hid (∃ us, OwnN cM 3 86 90 wr W0.heap.size wr.heap.size (.slice (some ⟨w2.heap.size, 0, none⟩) l.length l.length) us (meetTo X l.length k)) ∧ Hid (wr.ownsRow W0.heap.size 85 5 (.slice a4 X.length cap4) X.length (row_Crossing X)) ∧ Hid (wr.ownsRow W0.heap.size 63 4 (.slice a2 l.length cap2) l.length (row_Slot l)) ∧ Hid (Below W0.heap.size W0 wr)) (fun i _ => X.length - (intOf i).toNat)
    case atStart => exact ⟨0, Nat.zero_le _, rfl, HN4, HX5, HO4, HB4⟩
    case round =>
      clear HN4 HX5 HO4 HB4
      obtain ⟨k, hk, rfl, ⟨us, hn⟩, HX, HO, HB⟩ := hrel
      by_cases hlt : k < X.length
      · have hd : decide ((k : Int) < (X.length : Int)) = true := decide_eq_true (by omega)
        obtain ⟨-, a9, cap9, e9, -, hxc⟩ := (reads_Crossing_own HX.out rfl (by omega)).cells
        injection e9 with e9 _ e10
        subst e9 e10
        obtain ⟨bx, ox, rfl, hbx, q0, q1, q2, q3, q4⟩ := hxc k hlt
        clear hxc
        obtain ⟨i, j, p, q, t, hx, hij, hj⟩ := HXS.out (X.getD k none_Crossing) (by simp [List.getD, hlt])
        have HNX := Lib.hid (meetTo_next (n := l.length) hlt hx hij)
        rw [hx] at q0 q1 q2 q3 q4
        simp only at q0 q1 q2 q3 q4
        have hil : i < l.length := by omega
        have hml := meetTo_length X l.length k
        have ci := hn.spot (j := i) (by omega)
        have cj := hn.spot (j := j) (by omega)
        have fi := hn.soft i
        have fj := hn.soft j
        have hini := hn.inner i (by omega)
        have hinj := hn.inner j (by omega)
        rw [meetTo_at X _ k hil] at hini
        rw [meetTo_at X _ k hj] at hinj
        have hmi := meetS_len X k i
        have hmj := meetS_len X k j
        obtain ⟨Mi, hMi⟩ : ∃ M, M = meetS (X.take k) i := ⟨_, rfl⟩
        obtain ⟨Mj, hMj⟩ : ∃ M, M = meetS (X.take k) j := ⟨_, rfl⟩
        rw [← hMi] at hini hmi HNX
        rw [← hMj] at hinj hmj HNX
        obtain ⟨ui, hui⟩ : ∃ u, u = us.getD i undef := ⟨_, rfl⟩
        obtain ⟨uj, huj⟩ : ∃ u, u = us.getD j undef := ⟨_, rfl⟩
        rw [← hui] at ci hini
        rw [← huj] at cj hinj
        have HII := Lib.hid hini
        have HIJ := Lib.hid hinj
        obtain ⟨ai, cci, rfl⟩ := ownV_slice hini
        obtain ⟨aj, ccj, rfl⟩ := ownV_slice hinj
        have HN := Lib.hid hn
        have HMJ := Lib.hid hMj
        have HUI := Lib.hid hui
        have HUJ := Lib.hid huj
        clear hx hn hMi hMj hini hinj hml hui huj
        obtain ⟨WA, hWA⟩ : ∃ WA, WA = wr.alloc (.cells #[.int .i64 i, .int .i64 j, .int .i64 p, .int .i64 q, .int .i64 t] 85) := ⟨_, rfl⟩
        have HA : Hid (Below wr.heap.size wr WA) := Lib.hid (by rw [hWA]; exact (Below.refl _ _).alloc (Nat.le_refl _) _)
        have hwa : WA.heap.size = wr.heap.size + 1 := by rw [hWA]; simp
        have hG := (HN.out.low w2.heap.size rfl).2
        have hgc : ∀ W, Below WA.heap.size WA W → W.heap[w2.heap.size]? = wr.heap[w2.heap.size]? := fun W h => (h.block w2.heap.size (by omega)).trans (HA.out.block w2.heap.size hG)
        have HSC : Hid (∀ W, Below WA.heap.size WA W → ((W.cell? ⟨wr.heap.size, 0, none⟩ = some (.int .i64 (i : Int)) ∧ W.cell? ⟨wr.heap.size, 1, none⟩ = some (.int .i64 (j : Int))) ∧ (W.cell? ⟨wr.heap.size, 2, none⟩ = some (.int .i64 (p : Int)) ∧ W.cell? ⟨wr.heap.size, 3, none⟩ = some (.int .i64 (q : Int))))) := Lib.hid (fun W h => ⟨⟨(h.cell (p := ⟨wr.heap.size, 0, none⟩) (by show wr.heap.size < _; omega)).trans (by rw [hWA]; simp), (h.cell (p := ⟨wr.heap.size, 1, none⟩) (by show wr.heap.size < _; omega)).trans (by rw [hWA]; simp)⟩, (h.cell (p := ⟨wr.heap.size, 2, none⟩) (by show wr.heap.size < _; omega)).trans (by rw [hWA]; simp), (h.cell (p := ⟨wr.heap.size, 3, none⟩) (by show wr.heap.size < _; omega)).trans (by rw [hWA]; simp)⟩)
        have HNA := Lib.hid (HN.out.now HA.out)
        have HIA := Lib.hid (ownV_later HII.out HA.out)
        have HXA := Lib.hid (ownV_later HX.out HA.out)
        have HOA := Lib.hid (ownV_later HO.out HA.out)
        have HBA := Lib.hid (HB.out.trans (HA.out.mono HB.out.size))
        have HGC : Hid (∀ W, Below WA.heap.size WA W → W.cell? ⟨w2.heap.size, i, none⟩ = some (.slice ai Mi.length cci) ∧ W.frozen? ⟨w2.heap.size, i, none⟩ = false) := Lib.hid (fun W h => ⟨(World.cell?_of_block (a := ⟨w2.heap.size, i, none⟩) (hgc W h)).trans ci, (World.frozen?_of_block (a := ⟨w2.heap.size, i, none⟩) (hgc W h)).trans fi⟩)
        have HIL := Lib.hid HII.out.lt
        have hne1 : some wr.heap.size ≠ (Value.slice ai Mi.length cci).ownBlock := fun e => by have := (HIL.out _ e.symm).2; omega
        have hne2 : some w2.heap.size ≠ (Value.slice ai Mi.length cci).ownBlock := fun e => by have h9 := HN.out.apart i (by rw [meetTo_length]; exact hil) w2.heap.size rfl; rw [← HUI.out] at h9; exact h9 e.symm
        have hwg : wr.heap.size ≠ w2.heap.size := by omega
        have HIJL : Hid (∀ q, (us.getD j undef).ownBlock = some q → W0.heap.size ≤ q ∧ q < wr.heap.size) := Lib.hid (by rw [← HUJ.out]; exact HIJ.out.lt)
        go_wp2_with fail
        rw [← hWA]
        have HWZ := Lib.hid hwa
        have HWS := Lib.hid hws
        have hiw : wr.heap.size < WA.heap.size := by omega
        clear hWA hgc hwa hws q0 q1 q2 q3 q4 ci fi cj fj
        have hjl : i < (meetTo X l.length k).length := by rw [meetTo_length]; exact hil
        have HUE := HUI
        have hbn : Below WA.heap.size WA WA := Below.refl _ _
        have gi := (HGC.out _ hbn).1
        have ge := fun o => (HGC.out _ (hbn.alloc hbn.size o)).1
        go_cut [] (fun wx => Hid (∃ us1, OwnN cM 3 86 90 wx W0.heap.size wx.heap.size (.slice (some ⟨w2.heap.size, 0, none⟩) l.length l.length) us1 ((meetTo X l.length k).set i (Mi ++ [(p, j, q)])) ∧ some wr.heap.size ≠ (us1.getD j undef).ownBlock) ∧ Hid (wx.ownsRow W0.heap.size 85 5 (.slice (some ⟨bx, ox, none⟩) X.length cap4) X.length (row_Crossing X)) ∧ Hid (wx.ownsRow W0.heap.size 63 4 (.slice a2 l.length cap2) l.length (row_Slot l)) ∧ Hid (Below W0.heap.size W0 wx) ∧ Hid (((wx.cell? ⟨wr.heap.size, 0, none⟩ = some (.int .i64 (i : Int)) ∧ wx.cell? ⟨wr.heap.size, 1, none⟩ = some (.int .i64 (j : Int))) ∧ (wx.cell? ⟨wr.heap.size, 2, none⟩ = some (.int .i64 (p : Int)) ∧ wx.cell? ⟨wr.heap.size, 3, none⟩ = some (.int .i64 (q : Int))))))
        case first =>
          refine wp_region_held_drew (S := (fun W => ((W.cell? ⟨wr.heap.size, 0, none⟩ = some (.int .i64 (i : Int)) ∧ W.cell? ⟨wr.heap.size, 1, none⟩ = some (.int .i64 (j : Int))) ∧ (W.cell? ⟨wr.heap.size, 2, none⟩ = some (.int .i64 (p : Int)) ∧ W.cell? ⟨wr.heap.size, 3, none⟩ = some (.int .i64 (q : Int)))))) (by kernel_rfl) ?_ (fun hHeld => ?_)
          · exact HSC.out _ hbn.drew
          refine wpAnyH_take (i := 0) (v := ?_) rfl (by kernel_rfl) (by kernel_rfl) (by kernel_rfl) (fun _ _ _ h => h) (Or.inl ⟨by rfl, ?_⟩) (by assumption) ?_
          rotate_left
          · intro w9 hSw
            try dsimp only at hSw
            go_simp
            all_goals with_reducible rfl
          refine wpAnyH_take (i := 1) (v := ?_) rfl (by kernel_rfl) (by kernel_rfl) (by kernel_rfl) (fun _ _ _ h => h) (Or.inl ⟨by rfl, ?_⟩) (by assumption) ?_
          rotate_left
          · intro w9 hSw
            try dsimp only at hSw
            go_simp
            all_goals with_reducible rfl
          refine wpAnyH_take (i := 2) (v := ?_) rfl (by kernel_rfl) (by kernel_rfl) (by kernel_rfl) (fun _ _ _ h => h) (Or.inl ⟨by rfl, ?_⟩) (by assumption) ?_
          rotate_left
          · intro w9 hSw
            try dsimp only at hSw
            go_simp
            all_goals with_reducible rfl
          refine wpAnyH_take (i := 3) (v := ?_) rfl (by kernel_rfl) (by kernel_rfl) (by kernel_rfl) (fun _ _ _ h => h) (Or.inl ⟨by rfl, ?_⟩) (by assumption) ?_
          rotate_left
          · intro w9 hSw
            try dsimp only at hSw
            go_simp
            all_goals with_reducible rfl
          refine wpAnyH_take (i := 4) (v := ?_) rfl (by kernel_rfl) (by kernel_rfl) (by kernel_rfl) (fun _ _ _ h => h) (Or.inl ⟨by rfl, ?_⟩) (by assumption) ?_
          rotate_left
          · intro w9 hSw
            try dsimp only at hSw
            go_simp
            all_goals with_reducible rfl
          refine wpAnyH_take (i := 5) (v := ?_) rfl (by kernel_rfl) (by kernel_rfl) (by kernel_rfl) (fun _ _ _ h => h) (Or.inl ⟨by rfl, ?_⟩) (by assumption) ?_
          rotate_left
          · intro w9 hSw
            try dsimp only at hSw
            go_simp
            all_goals with_reducible rfl
          refine wpAnyH_take (i := 6) (v := ?_) rfl (by kernel_rfl) (by kernel_rfl) (by kernel_rfl) (fun _ _ _ h => h) (Or.inl ⟨by rfl, ?_⟩) (by assumption) ?_
          rotate_left
          · intro w9 hSw
            try dsimp only at hSw
            go_simp
            all_goals with_reducible rfl
          refine wpAnyH_take (i := 8) (v := ?_) rfl (by kernel_rfl) (by kernel_rfl) (by kernel_rfl) (fun _ _ _ h => h) (Or.inl ⟨by rfl, ?_⟩) (by assumption) ?_
          rotate_left
          · intro w9 hSw
            try dsimp only at hSw
            go_simp
            all_goals with_reducible rfl
          refine wpAnyH_take (i := 9) (v := ?_) rfl (by kernel_rfl) (by kernel_rfl) (by kernel_rfl) (fun _ _ _ h => h) (Or.inl ⟨by rfl, ?_⟩) (by assumption) ?_
          rotate_left
          · intro w9 hSw
            try dsimp only at hSw
            go_simp
            all_goals with_reducible rfl
          refine wpAnyH_take (i := 10) (v := ?_) rfl (by kernel_rfl) (by kernel_rfl) (by kernel_rfl) (fun _ _ _ h => h) (Or.inl ⟨by rfl, ?_⟩) (by assumption) ?_
          rotate_left
          · intro w9 hSw
            try dsimp only at hSw
            go_simp
            all_goals with_reducible rfl
          refine wpAnyH_take (i := 11) (v := ?_) rfl (by kernel_rfl) (by kernel_rfl) (by kernel_rfl) (fun _ _ _ h => h) (Or.inl ⟨by rfl, ?_⟩) (by assumption) ?_
          rotate_left
          · intro w9 hSw
            try dsimp only at hSw
            go_simp
            all_goals with_reducible rfl
          refine wpAnyH_take (i := 12) (v := ?_) rfl (by kernel_rfl) (by kernel_rfl) (by kernel_rfl) (fun _ _ _ h => h) (Or.inl ⟨by rfl, ?_⟩) (by assumption) ?_
          rotate_left
          · intro w9 hSw
            try dsimp only at hSw
            go_simp
            all_goals with_reducible rfl
          refine wpAnyH_take (i := 13) (v := ?_) rfl (by kernel_rfl) (by kernel_rfl) (by kernel_rfl) (fun _ _ _ h => h) (Or.inl ⟨by rfl, ?_⟩) (by assumption) ?_
          rotate_left
          · intro w9 hSw
            try dsimp only at hSw
            go_simp
            all_goals with_reducible rfl
          refine wpAnyH_take (i := 14) (v := ?_) rfl (by kernel_rfl) (by kernel_rfl) (by kernel_rfl) (fun _ _ _ h => h) (Or.inl ⟨by rfl, ?_⟩) (by assumption) ?_
          rotate_left
          · intro w9 hSw
            try dsimp only at hSw
            go_simp
            all_goals with_reducible rfl
          refine wpAnyH_take (i := 15) (v := ?_) rfl (by kernel_rfl) (by kernel_rfl) (by kernel_rfl) (fun _ _ _ h => h) (Or.inl ⟨by rfl, ?_⟩) (by assumption) ?_
          rotate_left
          · intro w9 hSw
            try dsimp only at hSw
            go_simp
            all_goals with_reducible rfl
          refine wpAnyH_ready (rs := [7, 16]) (by kernel_rfl) (by simp) ?_
          refine AllReadyH.cons rfl (fun K hK => ?_) ?_
          · go_simp
            refine hK.out _ _ ?_ (fun hHeld2 => ?_)
            · (try dsimp only)
              first | exact HSC.out _ hbn.drew | exact HSC.out _ (hbn.alloc hbn.size _).drew
            clear hK K hHeld
            have hHeld := hHeld2
            clear hHeld2
            refine wpAnyH_ready (rs := [16]) (by kernel_rfl) (by simp) ?_
            refine AllReadyH.cons rfl (fun K hK => ?_) ?_
            · go_simp
              refine hK.out _ _ ?_ (fun hHeld2 => ?_)
              · (try dsimp only)
                first | exact HSC.out _ hbn.drew | exact HSC.out _ (hbn.alloc hbn.size _).drew
              clear hK K hHeld
              have hHeld := hHeld2
              clear hHeld2
              refine wpAnyH_ready (rs := [17]) (by kernel_rfl) (by simp) ?_
              refine AllReadyH.cons rfl (fun K hK => ?_) ?_
              · refine step_appendW rfl (.tmp 34) (.tmp 43) 86 rfl W0.heap.size 90 i0 (.agg #[.int .i64 0, .int .i64 0, .int .i64 0]) 3 24 Tryz.underlying86 hi hz0 hz1 hz2 rfl (by decide) (.slice ai Mi.length cci) Mi.length (Mi.flatMap cM) rfl (HIA.out.alloc (.cells #[.int .i64 (p : Int), .int .i64 (j : Int), .int .i64 (q : Int)] 90)).drew ⟨WA.heap.size, 0, none⟩ 1 1 (cM (p, j, q)) rfl rfl (by decide) (cM_one _) (oneM WA (p, j, q) _) (by omega) (by omega) (le_alloc HBA.out.size _) ?_
                intro v6 w6 hown hgrow hwhere
                obtain ⟨a6, c6, rfl⟩ := ownV_slice hown
                have hgrow : (WA.alloc (.cells #[.int .i64 (p : Int), .int .i64 (j : Int), .int .i64 (q : Int)] 90)).drew.grownBy w6 (Value.slice ai Mi.length cci).ownBlock := hgrow
                have HO6 := Lib.hid hown
                have HG6 := Lib.hid hgrow
                have HW6 := Lib.hid hwhere
                have hS3 := HSC.out _ (hbn.alloc hbn.size (.cells #[.int .i64 (p : Int), .int .i64 (j : Int), .int .i64 (q : Int)] 90)).drew
                have hG3 := HGC.out _ (hbn.alloc hbn.size (.cells #[.int .i64 (p : Int), .int .i64 (j : Int), .int .i64 (q : Int)] 90)).drew
                have cS := And.intro (And.intro (hgrow.cell hS3.1.1 hne1) (hgrow.cell hS3.1.2 hne1)) (And.intro (hgrow.cell hS3.2.1 hne1) (hgrow.cell hS3.2.2 hne1))
                have cT := fun u => And.intro (And.intro ((World.cell?_of_block (a := ⟨wr.heap.size, 0, none⟩) (heap_setCell_other w6 ⟨w2.heap.size, i, none⟩ wr.heap.size u hwg)).trans cS.1.1) ((World.cell?_of_block (a := ⟨wr.heap.size, 1, none⟩) (heap_setCell_other w6 ⟨w2.heap.size, i, none⟩ wr.heap.size u hwg)).trans cS.1.2)) (And.intro ((World.cell?_of_block (a := ⟨wr.heap.size, 2, none⟩) (heap_setCell_other w6 ⟨w2.heap.size, i, none⟩ wr.heap.size u hwg)).trans cS.2.1) ((World.cell?_of_block (a := ⟨wr.heap.size, 3, none⟩) (heap_setCell_other w6 ⟨w2.heap.size, i, none⟩ wr.heap.size u hwg)).trans cS.2.2))
                have k4 := hgrow.cell hG3.1 hne2
                have l4 := (World.frozen?_of_block (a := ⟨w2.heap.size, i, none⟩) (hgrow.block w2.heap.size (World.block_lt_of_cell? _ _ hG3.1) hne2)).trans hG3.2
                clear hown hgrow hwhere hS3 hG3
                refine hK.out _ _ ?_ (fun hHeld2 => ?_)
                · (try dsimp only)
                  exact cS
                clear hK K hHeld
                have hHeld := hHeld2
                clear hHeld2
                refine wpAnyH_take (i := 18) (v := ?_) rfl (by kernel_rfl) (by kernel_rfl) (by kernel_rfl) (fun _ _ _ h => h) (Or.inl ⟨by rfl, ?_⟩) (by assumption) ?_
                rotate_left
                · intro w9 hSw
                  try dsimp only at hSw
                  go_simp
                  all_goals with_reducible rfl
                refine wpAnyH_ready (rs := [19]) (by kernel_rfl) (by simp) ?_
                refine AllReadyH.cons rfl (fun K hK => ?_) ?_
                · go_simp
                  refine hK.out _ _ ?_ (fun hHeld2 => ?_)
                  · (try dsimp only)
                    exact cT _
                  clear hK K hHeld
                  have hHeld := hHeld2
                  clear hHeld2
                  refine wpAnyH_done (by kernel_rfl) ?_ _
                  have HNZ := Lib.hid (HNA.out.appendAt (j := i) (v' := .slice a6 (Mi.length + 1) c6) (m := Mi ++ [(p, j, q)]) hjl (hbn.alloc hbn.size (.cells #[.int .i64 (p : Int), .int .i64 (j : Int), .int .i64 (q : Int)] 90)).drew (by rw [List.length_append, List.flatMap_append, List.flatMap_cons, List.flatMap_nil, List.append_nil]; exact HO6.out) (by rw [← HUE.out]; exact HG6.out) (by rw [← HUE.out]; exact HW6.out))
                  have HXZ := Lib.hid (row_after (G := w2.heap.size) (i := i) (v6 := .slice a6 (Mi.length + 1) c6) HXA.out HG6.out (own_types HIA.out HXA.out (by decide)) (own_types HNA.out.row HXA.out (by decide)))
                  have HOZ := Lib.hid (row_after (G := w2.heap.size) (i := i) (v6 := .slice a6 (Mi.length + 1) c6) HOA.out HG6.out (own_types HIA.out HOA.out (by decide)) (own_types HNA.out.row HOA.out (by decide)))
                  have HBZ := Lib.hid (((HBA.out.alloc HBA.out.size (.cells #[.int .i64 (p : Int), .int .i64 (j : Int), .int .i64 (q : Int)] 90)).drew.grown HG6.out (le_alloc HBA.out.size _) (fun q h => (HIA.out.lt q h).1)).setCell (p := ⟨w2.heap.size, i, none⟩) (HNA.out.low w2.heap.size rfl).1 (.slice a6 (Mi.length + 1) c6))
                  have cT2 := cT (.slice a6 (Mi.length + 1) c6)
                  go_wp2_with fail
                  go_meet
                  exact ⟨Lib.hid ⟨_, HNZ.out, by rw [getD_set_ne (show i ≠ j by omega)]; exact fun e => by have := (HIJL.out _ e.symm).2; omega⟩, HXZ, HOZ, HBZ, Lib.hid cT2⟩
                exact AllReadyH.nil
              exact AllReadyH.nil
            exact AllReadyH.nil
          refine AllReadyH.cons rfl (fun K hK => ?_) ?_
          · go_simp
            refine hK.out _ _ ?_ (fun hHeld2 => ?_)
            · (try dsimp only)
              first | exact HSC.out _ hbn.drew | exact HSC.out _ (hbn.alloc hbn.size _).drew
            clear hK K hHeld
            have hHeld := hHeld2
            clear hHeld2
            refine wpAnyH_ready (rs := [7]) (by kernel_rfl) (by simp) ?_
            refine AllReadyH.cons rfl (fun K hK => ?_) ?_
            · go_simp
              refine hK.out _ _ ?_ (fun hHeld2 => ?_)
              · (try dsimp only)
                first | exact HSC.out _ hbn.drew | exact HSC.out _ (hbn.alloc hbn.size _).drew
              clear hK K hHeld
              have hHeld := hHeld2
              clear hHeld2
              refine wpAnyH_ready (rs := [17]) (by kernel_rfl) (by simp) ?_
              refine AllReadyH.cons rfl (fun K hK => ?_) ?_
              · refine step_appendW rfl (.tmp 34) (.tmp 43) 86 rfl W0.heap.size 90 i0 (.agg #[.int .i64 0, .int .i64 0, .int .i64 0]) 3 24 Tryz.underlying86 hi hz0 hz1 hz2 rfl (by decide) (.slice ai Mi.length cci) Mi.length (Mi.flatMap cM) rfl (HIA.out.alloc (.cells #[.int .i64 (p : Int), .int .i64 (j : Int), .int .i64 (q : Int)] 90)).drew ⟨WA.heap.size, 0, none⟩ 1 1 (cM (p, j, q)) rfl rfl (by decide) (cM_one _) (oneM WA (p, j, q) _) (by omega) (by omega) (le_alloc HBA.out.size _) ?_
                intro v6 w6 hown hgrow hwhere
                obtain ⟨a6, c6, rfl⟩ := ownV_slice hown
                have hgrow : (WA.alloc (.cells #[.int .i64 (p : Int), .int .i64 (j : Int), .int .i64 (q : Int)] 90)).drew.grownBy w6 (Value.slice ai Mi.length cci).ownBlock := hgrow
                have HO6 := Lib.hid hown
                have HG6 := Lib.hid hgrow
                have HW6 := Lib.hid hwhere
                have hS3 := HSC.out _ (hbn.alloc hbn.size (.cells #[.int .i64 (p : Int), .int .i64 (j : Int), .int .i64 (q : Int)] 90)).drew
                have hG3 := HGC.out _ (hbn.alloc hbn.size (.cells #[.int .i64 (p : Int), .int .i64 (j : Int), .int .i64 (q : Int)] 90)).drew
                have cS := And.intro (And.intro (hgrow.cell hS3.1.1 hne1) (hgrow.cell hS3.1.2 hne1)) (And.intro (hgrow.cell hS3.2.1 hne1) (hgrow.cell hS3.2.2 hne1))
                have cT := fun u => And.intro (And.intro ((World.cell?_of_block (a := ⟨wr.heap.size, 0, none⟩) (heap_setCell_other w6 ⟨w2.heap.size, i, none⟩ wr.heap.size u hwg)).trans cS.1.1) ((World.cell?_of_block (a := ⟨wr.heap.size, 1, none⟩) (heap_setCell_other w6 ⟨w2.heap.size, i, none⟩ wr.heap.size u hwg)).trans cS.1.2)) (And.intro ((World.cell?_of_block (a := ⟨wr.heap.size, 2, none⟩) (heap_setCell_other w6 ⟨w2.heap.size, i, none⟩ wr.heap.size u hwg)).trans cS.2.1) ((World.cell?_of_block (a := ⟨wr.heap.size, 3, none⟩) (heap_setCell_other w6 ⟨w2.heap.size, i, none⟩ wr.heap.size u hwg)).trans cS.2.2))
                have k4 := hgrow.cell hG3.1 hne2
                have l4 := (World.frozen?_of_block (a := ⟨w2.heap.size, i, none⟩) (hgrow.block w2.heap.size (World.block_lt_of_cell? _ _ hG3.1) hne2)).trans hG3.2
                clear hown hgrow hwhere hS3 hG3
                refine hK.out _ _ ?_ (fun hHeld2 => ?_)
                · (try dsimp only)
                  exact cS
                clear hK K hHeld
                have hHeld := hHeld2
                clear hHeld2
                refine wpAnyH_take (i := 18) (v := ?_) rfl (by kernel_rfl) (by kernel_rfl) (by kernel_rfl) (fun _ _ _ h => h) (Or.inl ⟨by rfl, ?_⟩) (by assumption) ?_
                rotate_left
                · intro w9 hSw
                  try dsimp only at hSw
                  go_simp
                  all_goals with_reducible rfl
                refine wpAnyH_ready (rs := [19]) (by kernel_rfl) (by simp) ?_
                refine AllReadyH.cons rfl (fun K hK => ?_) ?_
                · go_simp
                  refine hK.out _ _ ?_ (fun hHeld2 => ?_)
                  · (try dsimp only)
                    exact cT _
                  clear hK K hHeld
                  have hHeld := hHeld2
                  clear hHeld2
                  refine wpAnyH_done (by kernel_rfl) ?_ _
                  have HNZ := Lib.hid (HNA.out.appendAt (j := i) (v' := .slice a6 (Mi.length + 1) c6) (m := Mi ++ [(p, j, q)]) hjl (hbn.alloc hbn.size (.cells #[.int .i64 (p : Int), .int .i64 (j : Int), .int .i64 (q : Int)] 90)).drew (by rw [List.length_append, List.flatMap_append, List.flatMap_cons, List.flatMap_nil, List.append_nil]; exact HO6.out) (by rw [← HUE.out]; exact HG6.out) (by rw [← HUE.out]; exact HW6.out))
                  have HXZ := Lib.hid (row_after (G := w2.heap.size) (i := i) (v6 := .slice a6 (Mi.length + 1) c6) HXA.out HG6.out (own_types HIA.out HXA.out (by decide)) (own_types HNA.out.row HXA.out (by decide)))
                  have HOZ := Lib.hid (row_after (G := w2.heap.size) (i := i) (v6 := .slice a6 (Mi.length + 1) c6) HOA.out HG6.out (own_types HIA.out HOA.out (by decide)) (own_types HNA.out.row HOA.out (by decide)))
                  have HBZ := Lib.hid (((HBA.out.alloc HBA.out.size (.cells #[.int .i64 (p : Int), .int .i64 (j : Int), .int .i64 (q : Int)] 90)).drew.grown HG6.out (le_alloc HBA.out.size _) (fun q h => (HIA.out.lt q h).1)).setCell (p := ⟨w2.heap.size, i, none⟩) (HNA.out.low w2.heap.size rfl).1 (.slice a6 (Mi.length + 1) c6))
                  have cT2 := cT (.slice a6 (Mi.length + 1) c6)
                  go_wp2_with fail
                  go_meet
                  exact ⟨Lib.hid ⟨_, HNZ.out, by rw [getD_set_ne (show i ≠ j by omega)]; exact fun e => by have := (HIJL.out _ e.symm).2; omega⟩, HXZ, HOZ, HBZ, Lib.hid cT2⟩
                exact AllReadyH.nil
              exact AllReadyH.nil
            exact AllReadyH.nil
          exact AllReadyH.nil
        case rest =>
          obtain ⟨⟨us1, hn1, hu1⟩, HX1, HO1, HB1, HC1⟩ := hcut
          obtain ⟨WB, hWB⟩ : ∃ WB, WB = wc := ⟨_, rfl⟩
          rw [← hWB] at hn1 HX1 HO1 HB1 HC1 ⊢
          clear hWB HSC HGC hne1 hne2 hjl HUE hbn gi ge HIA HXA HOA HNA HBA
          have hL1 : ((meetTo X l.length k).set i (Mi ++ [(p, j, q)])).length = l.length := by rw [List.length_set, meetTo_length]
          have hinj := hn1.inner j (by omega)
          rw [getD_set_ne (show i ≠ j by omega), meetTo_at X _ k hj, ← HMJ.out] at hinj
          have cj := hn1.spot (j := j) (by omega)
          have fj := hn1.soft j
          have hG1 := (hn1.low w2.heap.size rfl).2
          obtain ⟨uj1, huj1⟩ : ∃ u, u = us1.getD j undef := ⟨_, rfl⟩
          rw [← huj1] at hinj cj hu1
          have HIB := Lib.hid hinj
          obtain ⟨ak, cck, rfl⟩ := ownV_slice hinj
          have HNB := Lib.hid hn1
          have HUE := Lib.hid huj1
          have hne1 := hu1
          have hne2 : some w2.heap.size ≠ (Value.slice ak Mj.length cck).ownBlock := fun e => by have h9 := HNB.out.apart j (by omega) w2.heap.size rfl; rw [← HUE.out] at h9; exact h9 e.symm
          have HSC : Hid (∀ W, Below WB.heap.size WB W → ((W.cell? ⟨wr.heap.size, 0, none⟩ = some (.int .i64 (i : Int)) ∧ W.cell? ⟨wr.heap.size, 1, none⟩ = some (.int .i64 (j : Int))) ∧ (W.cell? ⟨wr.heap.size, 2, none⟩ = some (.int .i64 (p : Int)) ∧ W.cell? ⟨wr.heap.size, 3, none⟩ = some (.int .i64 (q : Int))))) := Lib.hid (fun W h => ⟨⟨(h.cell (p := ⟨wr.heap.size, 0, none⟩) (World.block_lt_of_cell? _ _ HC1.out.1.1)).trans HC1.out.1.1, (h.cell (p := ⟨wr.heap.size, 1, none⟩) (World.block_lt_of_cell? _ _ HC1.out.1.2)).trans HC1.out.1.2⟩, (h.cell (p := ⟨wr.heap.size, 2, none⟩) (World.block_lt_of_cell? _ _ HC1.out.2.1)).trans HC1.out.2.1, (h.cell (p := ⟨wr.heap.size, 3, none⟩) (World.block_lt_of_cell? _ _ HC1.out.2.2)).trans HC1.out.2.2⟩)
          have HGC : Hid (∀ W, Below WB.heap.size WB W → W.cell? ⟨w2.heap.size, j, none⟩ = some (.slice ak Mj.length cck) ∧ W.frozen? ⟨w2.heap.size, j, none⟩ = false) := Lib.hid (fun W h => ⟨(World.cell?_of_block (a := ⟨w2.heap.size, j, none⟩) (h.block w2.heap.size hG1)).trans cj, (World.frozen?_of_block (a := ⟨w2.heap.size, j, none⟩) (h.block w2.heap.size hG1)).trans fj⟩)
          have hjl : j < ((meetTo X l.length k).set i (Mi ++ [(p, j, q)])).length := by omega
          have hbn : Below WB.heap.size WB WB := Below.refl _ _
          have gi := (HGC.out _ hbn).1
          have ge := fun o => (HGC.out _ (hbn.alloc hbn.size o)).1
          clear hinj cj fj hn1 huj1 hu1 hL1 HC1
          go_wp2_with fail
          refine wp_region_held_drew (S := (fun W => ((W.cell? ⟨wr.heap.size, 0, none⟩ = some (.int .i64 (i : Int)) ∧ W.cell? ⟨wr.heap.size, 1, none⟩ = some (.int .i64 (j : Int))) ∧ (W.cell? ⟨wr.heap.size, 2, none⟩ = some (.int .i64 (p : Int)) ∧ W.cell? ⟨wr.heap.size, 3, none⟩ = some (.int .i64 (q : Int)))))) (by kernel_rfl) ?_ (fun hHeld => ?_)
          · exact HSC.out _ hbn.drew
          refine wpAnyH_take (i := 0) (v := ?_) rfl (by kernel_rfl) (by kernel_rfl) (by kernel_rfl) (fun _ _ _ h => h) (Or.inl ⟨by rfl, ?_⟩) (by assumption) ?_
          rotate_left
          · intro w9 hSw
            try dsimp only at hSw
            go_simp
            all_goals with_reducible rfl
          refine wpAnyH_take (i := 1) (v := ?_) rfl (by kernel_rfl) (by kernel_rfl) (by kernel_rfl) (fun _ _ _ h => h) (Or.inl ⟨by rfl, ?_⟩) (by assumption) ?_
          rotate_left
          · intro w9 hSw
            try dsimp only at hSw
            go_simp
            all_goals with_reducible rfl
          refine wpAnyH_take (i := 2) (v := ?_) rfl (by kernel_rfl) (by kernel_rfl) (by kernel_rfl) (fun _ _ _ h => h) (Or.inl ⟨by rfl, ?_⟩) (by assumption) ?_
          rotate_left
          · intro w9 hSw
            try dsimp only at hSw
            go_simp
            all_goals with_reducible rfl
          refine wpAnyH_take (i := 3) (v := ?_) rfl (by kernel_rfl) (by kernel_rfl) (by kernel_rfl) (fun _ _ _ h => h) (Or.inl ⟨by rfl, ?_⟩) (by assumption) ?_
          rotate_left
          · intro w9 hSw
            try dsimp only at hSw
            go_simp
            all_goals with_reducible rfl
          refine wpAnyH_take (i := 4) (v := ?_) rfl (by kernel_rfl) (by kernel_rfl) (by kernel_rfl) (fun _ _ _ h => h) (Or.inl ⟨by rfl, ?_⟩) (by assumption) ?_
          rotate_left
          · intro w9 hSw
            try dsimp only at hSw
            go_simp
            all_goals with_reducible rfl
          refine wpAnyH_take (i := 5) (v := ?_) rfl (by kernel_rfl) (by kernel_rfl) (by kernel_rfl) (fun _ _ _ h => h) (Or.inl ⟨by rfl, ?_⟩) (by assumption) ?_
          rotate_left
          · intro w9 hSw
            try dsimp only at hSw
            go_simp
            all_goals with_reducible rfl
          refine wpAnyH_take (i := 6) (v := ?_) rfl (by kernel_rfl) (by kernel_rfl) (by kernel_rfl) (fun _ _ _ h => h) (Or.inl ⟨by rfl, ?_⟩) (by assumption) ?_
          rotate_left
          · intro w9 hSw
            try dsimp only at hSw
            go_simp
            all_goals with_reducible rfl
          refine wpAnyH_take (i := 8) (v := ?_) rfl (by kernel_rfl) (by kernel_rfl) (by kernel_rfl) (fun _ _ _ h => h) (Or.inl ⟨by rfl, ?_⟩) (by assumption) ?_
          rotate_left
          · intro w9 hSw
            try dsimp only at hSw
            go_simp
            all_goals with_reducible rfl
          refine wpAnyH_take (i := 9) (v := ?_) rfl (by kernel_rfl) (by kernel_rfl) (by kernel_rfl) (fun _ _ _ h => h) (Or.inl ⟨by rfl, ?_⟩) (by assumption) ?_
          rotate_left
          · intro w9 hSw
            try dsimp only at hSw
            go_simp
            all_goals with_reducible rfl
          refine wpAnyH_take (i := 10) (v := ?_) rfl (by kernel_rfl) (by kernel_rfl) (by kernel_rfl) (fun _ _ _ h => h) (Or.inl ⟨by rfl, ?_⟩) (by assumption) ?_
          rotate_left
          · intro w9 hSw
            try dsimp only at hSw
            go_simp
            all_goals with_reducible rfl
          refine wpAnyH_take (i := 11) (v := ?_) rfl (by kernel_rfl) (by kernel_rfl) (by kernel_rfl) (fun _ _ _ h => h) (Or.inl ⟨by rfl, ?_⟩) (by assumption) ?_
          rotate_left
          · intro w9 hSw
            try dsimp only at hSw
            go_simp
            all_goals with_reducible rfl
          refine wpAnyH_take (i := 12) (v := ?_) rfl (by kernel_rfl) (by kernel_rfl) (by kernel_rfl) (fun _ _ _ h => h) (Or.inl ⟨by rfl, ?_⟩) (by assumption) ?_
          rotate_left
          · intro w9 hSw
            try dsimp only at hSw
            go_simp
            all_goals with_reducible rfl
          refine wpAnyH_take (i := 13) (v := ?_) rfl (by kernel_rfl) (by kernel_rfl) (by kernel_rfl) (fun _ _ _ h => h) (Or.inl ⟨by rfl, ?_⟩) (by assumption) ?_
          rotate_left
          · intro w9 hSw
            try dsimp only at hSw
            go_simp
            all_goals with_reducible rfl
          refine wpAnyH_take (i := 14) (v := ?_) rfl (by kernel_rfl) (by kernel_rfl) (by kernel_rfl) (fun _ _ _ h => h) (Or.inl ⟨by rfl, ?_⟩) (by assumption) ?_
          rotate_left
          · intro w9 hSw
            try dsimp only at hSw
            go_simp
            all_goals with_reducible rfl
          refine wpAnyH_take (i := 15) (v := ?_) rfl (by kernel_rfl) (by kernel_rfl) (by kernel_rfl) (fun _ _ _ h => h) (Or.inl ⟨by rfl, ?_⟩) (by assumption) ?_
          rotate_left
          · intro w9 hSw
            try dsimp only at hSw
            go_simp
            all_goals with_reducible rfl
          refine wpAnyH_ready (rs := [7, 16]) (by kernel_rfl) (by simp) ?_
          refine AllReadyH.cons rfl (fun K hK => ?_) ?_
          · go_simp
            refine hK.out _ _ ?_ (fun hHeld2 => ?_)
            · (try dsimp only)
              first | exact HSC.out _ hbn.drew | exact HSC.out _ (hbn.alloc hbn.size _).drew
            clear hK K hHeld
            have hHeld := hHeld2
            clear hHeld2
            refine wpAnyH_ready (rs := [16]) (by kernel_rfl) (by simp) ?_
            refine AllReadyH.cons rfl (fun K hK => ?_) ?_
            · go_simp
              refine hK.out _ _ ?_ (fun hHeld2 => ?_)
              · (try dsimp only)
                first | exact HSC.out _ hbn.drew | exact HSC.out _ (hbn.alloc hbn.size _).drew
              clear hK K hHeld
              have hHeld := hHeld2
              clear hHeld2
              refine wpAnyH_ready (rs := [17]) (by kernel_rfl) (by simp) ?_
              refine AllReadyH.cons rfl (fun K hK => ?_) ?_
              · refine step_appendW rfl (.tmp 53) (.tmp 62) 86 rfl W0.heap.size 90 i0 (.agg #[.int .i64 0, .int .i64 0, .int .i64 0]) 3 24 Tryz.underlying86 hi hz0 hz1 hz2 rfl (by decide) (.slice ak Mj.length cck) Mj.length (Mj.flatMap cM) rfl (HIB.out.alloc (.cells #[.int .i64 (q : Int), .int .i64 (i : Int), .int .i64 (p : Int)] 90)).drew ⟨WB.heap.size, 0, none⟩ 1 1 (cM (q, i, p)) rfl rfl (by decide) (cM_one _) (oneM WB (q, i, p) _) (by omega) (by omega) (le_alloc HB1.out.size _) ?_
                intro v6 w6 hown hgrow hwhere
                obtain ⟨a6, c6, rfl⟩ := ownV_slice hown
                have hgrow : (WB.alloc (.cells #[.int .i64 (q : Int), .int .i64 (i : Int), .int .i64 (p : Int)] 90)).drew.grownBy w6 (Value.slice ak Mj.length cck).ownBlock := hgrow
                have HO6 := Lib.hid hown
                have HG6 := Lib.hid hgrow
                have HW6 := Lib.hid hwhere
                have hS3 := HSC.out _ (hbn.alloc hbn.size (.cells #[.int .i64 (q : Int), .int .i64 (i : Int), .int .i64 (p : Int)] 90)).drew
                have hG3 := HGC.out _ (hbn.alloc hbn.size (.cells #[.int .i64 (q : Int), .int .i64 (i : Int), .int .i64 (p : Int)] 90)).drew
                have cS := And.intro (And.intro (hgrow.cell hS3.1.1 hne1) (hgrow.cell hS3.1.2 hne1)) (And.intro (hgrow.cell hS3.2.1 hne1) (hgrow.cell hS3.2.2 hne1))
                have cT := fun u => And.intro (And.intro ((World.cell?_of_block (a := ⟨wr.heap.size, 0, none⟩) (heap_setCell_other w6 ⟨w2.heap.size, j, none⟩ wr.heap.size u hwg)).trans cS.1.1) ((World.cell?_of_block (a := ⟨wr.heap.size, 1, none⟩) (heap_setCell_other w6 ⟨w2.heap.size, j, none⟩ wr.heap.size u hwg)).trans cS.1.2)) (And.intro ((World.cell?_of_block (a := ⟨wr.heap.size, 2, none⟩) (heap_setCell_other w6 ⟨w2.heap.size, j, none⟩ wr.heap.size u hwg)).trans cS.2.1) ((World.cell?_of_block (a := ⟨wr.heap.size, 3, none⟩) (heap_setCell_other w6 ⟨w2.heap.size, j, none⟩ wr.heap.size u hwg)).trans cS.2.2))
                have k4 := hgrow.cell hG3.1 hne2
                have l4 := (World.frozen?_of_block (a := ⟨w2.heap.size, j, none⟩) (hgrow.block w2.heap.size (World.block_lt_of_cell? _ _ hG3.1) hne2)).trans hG3.2
                clear hown hgrow hwhere hS3 hG3
                refine hK.out _ _ ?_ (fun hHeld2 => ?_)
                · (try dsimp only)
                  exact cS
                clear hK K hHeld
                have hHeld := hHeld2
                clear hHeld2
                refine wpAnyH_take (i := 18) (v := ?_) rfl (by kernel_rfl) (by kernel_rfl) (by kernel_rfl) (fun _ _ _ h => h) (Or.inl ⟨by rfl, ?_⟩) (by assumption) ?_
                rotate_left
                · intro w9 hSw
                  try dsimp only at hSw
                  go_simp
                  all_goals with_reducible rfl
                refine wpAnyH_ready (rs := [19]) (by kernel_rfl) (by simp) ?_
                refine AllReadyH.cons rfl (fun K hK => ?_) ?_
                · go_simp
                  refine hK.out _ _ ?_ (fun hHeld2 => ?_)
                  · (try dsimp only)
                    exact cT _
                  clear hK K hHeld
                  have hHeld := hHeld2
                  clear hHeld2
                  refine wpAnyH_done (by kernel_rfl) ?_ _
                  have HNZ := Lib.hid (HNB.out.appendAt (j := j) (v' := .slice a6 (Mj.length + 1) c6) (m := Mj ++ [(q, i, p)]) hjl (hbn.alloc hbn.size (.cells #[.int .i64 (q : Int), .int .i64 (i : Int), .int .i64 (p : Int)] 90)).drew (by rw [List.length_append, List.flatMap_append, List.flatMap_cons, List.flatMap_nil, List.append_nil]; exact HO6.out) (by rw [← HUE.out]; exact HG6.out) (by rw [← HUE.out]; exact HW6.out))
                  have HXZ := Lib.hid (row_after (G := w2.heap.size) (i := j) (v6 := .slice a6 (Mj.length + 1) c6) HX1.out HG6.out (own_types HIB.out HX1.out (by decide)) (own_types HNB.out.row HX1.out (by decide)))
                  have HOZ := Lib.hid (row_after (G := w2.heap.size) (i := j) (v6 := .slice a6 (Mj.length + 1) c6) HO1.out HG6.out (own_types HIB.out HO1.out (by decide)) (own_types HNB.out.row HO1.out (by decide)))
                  have HBZ := Lib.hid (((HB1.out.alloc HB1.out.size (.cells #[.int .i64 (q : Int), .int .i64 (i : Int), .int .i64 (p : Int)] 90)).drew.grown HG6.out (le_alloc HB1.out.size _) (fun q h => (HIB.out.lt q h).1)).setCell (p := ⟨w2.heap.size, j, none⟩) (HNB.out.low w2.heap.size rfl).1 (.slice a6 (Mj.length + 1) c6))
                  have cT2 := cT (.slice a6 (Mj.length + 1) c6)
                  clear cT2
                  go_wp2_with fail
                  go_roundw
                  case rel => exact ⟨k + 1, by omega, by go_num, Lib.hid ⟨_, by rw [HNX.out]; exact HNZ.out⟩, HXZ, HOZ, HBZ⟩
                  case measure => simp [intOf]; omega
                exact AllReadyH.nil
              exact AllReadyH.nil
            exact AllReadyH.nil
          refine AllReadyH.cons rfl (fun K hK => ?_) ?_
          · go_simp
            refine hK.out _ _ ?_ (fun hHeld2 => ?_)
            · (try dsimp only)
              first | exact HSC.out _ hbn.drew | exact HSC.out _ (hbn.alloc hbn.size _).drew
            clear hK K hHeld
            have hHeld := hHeld2
            clear hHeld2
            refine wpAnyH_ready (rs := [7]) (by kernel_rfl) (by simp) ?_
            refine AllReadyH.cons rfl (fun K hK => ?_) ?_
            · go_simp
              refine hK.out _ _ ?_ (fun hHeld2 => ?_)
              · (try dsimp only)
                first | exact HSC.out _ hbn.drew | exact HSC.out _ (hbn.alloc hbn.size _).drew
              clear hK K hHeld
              have hHeld := hHeld2
              clear hHeld2
              refine wpAnyH_ready (rs := [17]) (by kernel_rfl) (by simp) ?_
              refine AllReadyH.cons rfl (fun K hK => ?_) ?_
              · refine step_appendW rfl (.tmp 53) (.tmp 62) 86 rfl W0.heap.size 90 i0 (.agg #[.int .i64 0, .int .i64 0, .int .i64 0]) 3 24 Tryz.underlying86 hi hz0 hz1 hz2 rfl (by decide) (.slice ak Mj.length cck) Mj.length (Mj.flatMap cM) rfl (HIB.out.alloc (.cells #[.int .i64 (q : Int), .int .i64 (i : Int), .int .i64 (p : Int)] 90)).drew ⟨WB.heap.size, 0, none⟩ 1 1 (cM (q, i, p)) rfl rfl (by decide) (cM_one _) (oneM WB (q, i, p) _) (by omega) (by omega) (le_alloc HB1.out.size _) ?_
                intro v6 w6 hown hgrow hwhere
                obtain ⟨a6, c6, rfl⟩ := ownV_slice hown
                have hgrow : (WB.alloc (.cells #[.int .i64 (q : Int), .int .i64 (i : Int), .int .i64 (p : Int)] 90)).drew.grownBy w6 (Value.slice ak Mj.length cck).ownBlock := hgrow
                have HO6 := Lib.hid hown
                have HG6 := Lib.hid hgrow
                have HW6 := Lib.hid hwhere
                have hS3 := HSC.out _ (hbn.alloc hbn.size (.cells #[.int .i64 (q : Int), .int .i64 (i : Int), .int .i64 (p : Int)] 90)).drew
                have hG3 := HGC.out _ (hbn.alloc hbn.size (.cells #[.int .i64 (q : Int), .int .i64 (i : Int), .int .i64 (p : Int)] 90)).drew
                have cS := And.intro (And.intro (hgrow.cell hS3.1.1 hne1) (hgrow.cell hS3.1.2 hne1)) (And.intro (hgrow.cell hS3.2.1 hne1) (hgrow.cell hS3.2.2 hne1))
                have cT := fun u => And.intro (And.intro ((World.cell?_of_block (a := ⟨wr.heap.size, 0, none⟩) (heap_setCell_other w6 ⟨w2.heap.size, j, none⟩ wr.heap.size u hwg)).trans cS.1.1) ((World.cell?_of_block (a := ⟨wr.heap.size, 1, none⟩) (heap_setCell_other w6 ⟨w2.heap.size, j, none⟩ wr.heap.size u hwg)).trans cS.1.2)) (And.intro ((World.cell?_of_block (a := ⟨wr.heap.size, 2, none⟩) (heap_setCell_other w6 ⟨w2.heap.size, j, none⟩ wr.heap.size u hwg)).trans cS.2.1) ((World.cell?_of_block (a := ⟨wr.heap.size, 3, none⟩) (heap_setCell_other w6 ⟨w2.heap.size, j, none⟩ wr.heap.size u hwg)).trans cS.2.2))
                have k4 := hgrow.cell hG3.1 hne2
                have l4 := (World.frozen?_of_block (a := ⟨w2.heap.size, j, none⟩) (hgrow.block w2.heap.size (World.block_lt_of_cell? _ _ hG3.1) hne2)).trans hG3.2
                clear hown hgrow hwhere hS3 hG3
                refine hK.out _ _ ?_ (fun hHeld2 => ?_)
                · (try dsimp only)
                  exact cS
                clear hK K hHeld
                have hHeld := hHeld2
                clear hHeld2
                refine wpAnyH_take (i := 18) (v := ?_) rfl (by kernel_rfl) (by kernel_rfl) (by kernel_rfl) (fun _ _ _ h => h) (Or.inl ⟨by rfl, ?_⟩) (by assumption) ?_
                rotate_left
                · intro w9 hSw
                  try dsimp only at hSw
                  go_simp
                  all_goals with_reducible rfl
                refine wpAnyH_ready (rs := [19]) (by kernel_rfl) (by simp) ?_
                refine AllReadyH.cons rfl (fun K hK => ?_) ?_
                · go_simp
                  refine hK.out _ _ ?_ (fun hHeld2 => ?_)
                  · (try dsimp only)
                    exact cT _
                  clear hK K hHeld
                  have hHeld := hHeld2
                  clear hHeld2
                  refine wpAnyH_done (by kernel_rfl) ?_ _
                  have HNZ := Lib.hid (HNB.out.appendAt (j := j) (v' := .slice a6 (Mj.length + 1) c6) (m := Mj ++ [(q, i, p)]) hjl (hbn.alloc hbn.size (.cells #[.int .i64 (q : Int), .int .i64 (i : Int), .int .i64 (p : Int)] 90)).drew (by rw [List.length_append, List.flatMap_append, List.flatMap_cons, List.flatMap_nil, List.append_nil]; exact HO6.out) (by rw [← HUE.out]; exact HG6.out) (by rw [← HUE.out]; exact HW6.out))
                  have HXZ := Lib.hid (row_after (G := w2.heap.size) (i := j) (v6 := .slice a6 (Mj.length + 1) c6) HX1.out HG6.out (own_types HIB.out HX1.out (by decide)) (own_types HNB.out.row HX1.out (by decide)))
                  have HOZ := Lib.hid (row_after (G := w2.heap.size) (i := j) (v6 := .slice a6 (Mj.length + 1) c6) HO1.out HG6.out (own_types HIB.out HO1.out (by decide)) (own_types HNB.out.row HO1.out (by decide)))
                  have HBZ := Lib.hid (((HB1.out.alloc HB1.out.size (.cells #[.int .i64 (q : Int), .int .i64 (i : Int), .int .i64 (p : Int)] 90)).drew.grown HG6.out (le_alloc HB1.out.size _) (fun q h => (HIB.out.lt q h).1)).setCell (p := ⟨w2.heap.size, j, none⟩) (HNB.out.low w2.heap.size rfl).1 (.slice a6 (Mj.length + 1) c6))
                  have cT2 := cT (.slice a6 (Mj.length + 1) c6)
                  clear cT2
                  go_wp2_with fail
                  go_roundw
                  case rel => exact ⟨k + 1, by omega, by go_num, Lib.hid ⟨_, by rw [HNX.out]; exact HNZ.out⟩, HXZ, HOZ, HBZ⟩
                  case measure => simp [intOf]; omega
                exact AllReadyH.nil
              exact AllReadyH.nil
            exact AllReadyH.nil
          exact AllReadyH.nil
      · have hd : decide ((k : Int) < (X.length : Int)) = false := decide_eq_false (by omega)
        obtain rfl : k = X.length := by omega
        have HN := Lib.hid hn
        have HR := Lib.hid (HKP.out _ HB.out).2
        obtain ⟨⟨y0, y1, y2⟩, fy0, fy1, fy2⟩ := block3_cells HR.out
        clear hn
        go_wp2_with fail
        have hR3 := set3_block (x := .slice a2 l.length cap2) (y := .slice (some ⟨w2.heap.size, 0, none⟩) l.length l.length) (z := .slice ad l.length capd) HR.out
        obtain ⟨⟨z0, z1, z2⟩, -⟩ := block3_cells hR3
        refine bodyPost_ret (v := .agg #[.slice a2 l.length cap2, .slice (some ⟨w2.heap.size, 0, none⟩) l.length l.length, .slice ad l.length capd]) (by simp [results, Tryz.results21, go_sem, z0, z1, z2]) rfl ⟨_, _, _, rfl, set3_below (HBX.out.trans (HB.out.mono HBX.out.size)) (by omega) _ _ _, rfl, own_base (ownV_block HO.out fun q e => set3_other (by have := (HO.out.lt q e).1; omega) _ _ _) (by omega), us, ?_⟩
        exact ((HN.out.kept (fun q h1 _ => set3_other (by omega) _ _ _)).under (by omega)).full
  · have hnn : ((n : Int) != (l.length : Int)) = true := bne_iff_ne.2 (by omega)
    have hne : ((n : Int) == (l.length : Int)) = false := beq_eq_false_iff_ne.2 (by omega)
    have H1 := Lib.hid h1
    clear h1
    go_wp2_with (go_at_call 8; refine (HSL.out _).mono ?_; rintro e w2 ⟨v2, rfl, o2, b2⟩; obtain ⟨a2, cap2, rfl⟩ := ownV_slice o2; have HB2 := Lib.hid b2; obtain ⟨-, hg⟩ := HKP.out _ HB2.out; have HR2 := Lib.hid hg; obtain ⟨⟨y0, y1, y2⟩, fy0, fy1, fy2⟩ := block3_cells hg; clear o2 b2 hg)
    have hR3 := set3_block (x := .slice none 0 0) (y := .slice none 0 0) (z := .slice none 0 0) HR2.out
    obtain ⟨⟨z0, z1, z2⟩, -⟩ := block3_cells hR3
    exact bodyPost_ret (v := .agg #[.slice none 0 0, .slice none 0 0, .slice none 0 0]) (by simp [results, Tryz.results21, go_sem, z0, z1, z2]) rfl ⟨_, _, _, rfl, set3_below (HBX.out.trans (HB2.out.mono HBX.out.size)) (by omega) _ _ _, .inl ⟨H1.out, rfl, rfl, rfl⟩⟩
end Go.Proofs.YtgjijmcedonlmaaGreatDoor
