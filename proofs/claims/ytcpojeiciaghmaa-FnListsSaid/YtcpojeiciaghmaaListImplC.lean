/-
  The program's contracts of chapter 5: placeOf (a search by halving, by goto).
-/
import Derived.Test.YtcpojeiciaghmaaListImplB
import Derived.WalkMore
import Derived.ScopeJumps
namespace Go.Proofs.Ytcpojeiciaghmaa
open Go.RowKit

/-- Where the search by halving ends. -/
def halve (l : LZ) (x : ByteArray) (lo hi : Nat) : Nat :=
  if lo < hi then (if befW (wd l ((lo + hi) / 2)) x = true then halve l x ((lo + hi) / 2 + 1) hi else halve l x lo ((lo + hi) / 2)) else lo
termination_by hi - lo
decreasing_by all_goals omega
theorem halve_up {l : LZ} {x : ByteArray} {lo hi : Nat} (h : lo < hi) (hb : befW (wd l ((lo + hi) / 2)) x = true) : halve l x lo hi = halve l x ((lo + hi) / 2 + 1) hi := by
  rw [halve, if_pos h, if_pos hb]
theorem halve_down {l : LZ} {x : ByteArray} {lo hi : Nat} (h : lo < hi) (hb : befW (wd l ((lo + hi) / 2)) x = false) : halve l x lo hi = halve l x lo ((lo + hi) / 2) := by
  rw [halve, if_pos h, hb, if_neg (by decide)]
theorem halve_end {l : LZ} {x : ByteArray} {lo hi : Nat} (h : ¬ lo < hi) : halve l x lo hi = lo := by
  rw [halve, if_neg h]
theorem halve_place {l : LZ} {x : ByteArray} : ∀ (n lo hi : Nat), hi - lo = n → Halving l x lo hi → Place l x (halve l x lo hi) := by
  intro n
  induction n using Nat.strongRecOn with
  | _ n ih =>
    intro lo hi hn H
    by_cases h : lo < hi
    · cases hb : befW (wd l ((lo + hi) / 2)) x
      · rw [halve_down h hb]
        exact ih _ (by omega) _ _ rfl (H.down (by omega) (by omega) hb)
      · rw [halve_up h hb]
        exact ih _ (by omega) _ _ rfl (H.up (by omega) hb)
    · rw [halve_end h]
      exact H.done h
def zr : Nat := 0
def hiN (n : Nat) : Nat := n
/-- The place of a word. -/
def plc (l : LZ) (x : ByteArray) : Nat := halve l x 0 l.length
theorem plc_place (l : LZ) (x : ByteArray) : Place l x (plc l x) := halve_place _ 0 l.length rfl (Halving.start l x)
set_option maxRecDepth 1000000 in
set_option maxHeartbeats 1600000 in
theorem iplace_any (l : LZ) (x : ByteArray) (hl : l.length ≤ 16777216) (v : Value) (w : World) (hv : ReadsListed w.heap.size w v l) :
    Calls Try.prog 48 #[v, .string x] w fun e w' => e = .returned (.tuple #[.int .i64 (plc l x), .bool (atP l x (plc l x))]) ∧ Below w.heap.size w w' := by
  obtain ⟨-, a0, cap, rfl, -, hc⟩ := hv.cells
  have HC := Lib.hid hc
  clear hc hv
  go_enter Try.func48, Try.ntmps48
  go_wp2
  refine wp_scope_jumps 0 (fun a' w' => w' = w ∧ ∃ (lo hi : Nat) (u8 u9 u10 u11 u12 u13 u14 u15 u16 u17 u18 u19 u20 u21 u22 u23 u24 u25 u26 u27 u28 u29 u30 u31 u32 u33 u34 u35 u36 u37 u38 u39 u40 u41 : Value), a' = { tmps := #[.slice a0 (List.length l) cap, .string x, undef, undef, .int .i64 0, .bool false, .int .i64 lo, .int .i64 hi, u8, u9, u10, u11, u12, u13, u14, u15, u16, u17, u18, u19, u20, u21, u22, u23, u24, u25, u26, u27, u28, u29, u30, u31, u32, u33, u34, u35, u36, u37, u38, u39, u40, u41], defers := [] } ∧ Hid (Halving l x lo hi ∧ halve l x lo hi = plc l x)) (fun a' _ => (intOf (a'.tmps.getD 7 undef)).toNat - (intOf (a'.tmps.getD 6 undef)).toNat) rfl ?_ ?_
  · go_wp2
    go_step3
    rename_i K hK
    refine hK _ _ ?_
    change Code.wp _ _ _ { tmps := #[.slice a0 (List.length l) cap, .string x, undef, undef, .int .i64 0, .bool false, .int .i64 ((zr : Nat) : Int), .int .i64 ((hiN (List.length l) : Nat) : Int), _, _, _, _, _, _, _, _, _, _, _, _, _, _, _, _, _, _, _, _, _, _, _, _, _, _, _, _, _, _, _, _, _, _], defers := [] } _
    have HH : Hid (Halving l x zr (hiN (List.length l)) ∧ halve l x zr (hiN (List.length l)) = plc l x) := Lib.hid ⟨Halving.start l x, rfl⟩
    revert HH
    generalize zr = lo
    generalize hiN (List.length l) = hi
    intro HH
    obtain ⟨H, HE⟩ := HH.out
    have htop : hi ≤ l.length := H.top
    have HH2 := Lib.hid H
    have HE2 := Lib.hid HE
    clear HH H HE
    by_cases hlt : lo < hi
    · obtain ⟨m, hm⟩ : ∃ m, m = (lo + hi) / 2 := ⟨_, rfl⟩
      have hd : ((lo : Int) + (hi : Int)).tdiv 2 = (m : Int) := by
        rw [Int.tdiv_eq_ediv_of_nonneg (by omega), hm]
        omega
      have hm1 : lo ≤ m := by omega
      have hm2 : m < hi := by omega
      have hml : m < l.length := by omega
      obtain ⟨b, off, rfl, hb, q0, -, -, -⟩ := HC.out m hml
      have HUP := Lib.hid (fun h => halve_up (l := l) (x := x) hlt h)
      have HDN := Lib.hid (fun h => halve_down (l := l) (x := x) hlt h)
      rw [← hm] at HUP HDN
      obtain ⟨y, hy⟩ : ∃ y, y = (l.getD m none_Listed).1 := ⟨_, rfl⟩
      rw [← hy] at q0
      have HY : Hid (wd l m = y) := Lib.hid hy.symm
      obtain ⟨p, hp⟩ : ∃ p, p = befW y x := ⟨_, rfl⟩
      have HBW := Lib.hid (ibef_same y x)
      rw [← hp] at HBW
      have HP : Hid (befW (wd l m) x = p) := Lib.hid (by rw [HY.out, hp])
      clear hm hy hp
      have e1 : (m : Int) + 1 = ((m + 1 : Nat) : Int) := by omega
      have HE1 := Lib.hid e1
      clear e1
      cases p with
      | true =>
        go_wp2_with (go_at_call 44; refine (HBW.out _).mono ?_; rintro e w2 ⟨rfl, rfl⟩)
        go_step3
        rw [HE1.out]
        exact ⟨rfl, rfl, m + 1, hi, _, _, _, _, _, _, _, _, _, _, _, _, _, _, _, _, _, _, _, _, _, _, _, _, _, _, _, _, _, _, _, _, _, _, rfl, Lib.hid ⟨HH2.out.up hm2 HP.out, by rw [← HUP.out HP.out]; exact HE2.out⟩⟩
      | false =>
        go_wp2_with (go_at_call 44; refine (HBW.out _).mono ?_; rintro e w2 ⟨rfl, rfl⟩)
        go_step3
        exact ⟨rfl, rfl, lo, m, _, _, _, _, _, _, _, _, _, _, _, _, _, _, _, _, _, _, _, _, _, _, _, _, _, _, _, _, _, _, _, _, _, _, rfl, Lib.hid ⟨HH2.out.down hm1 hm2 HP.out, by rw [← HDN.out HP.out]; exact HE2.out⟩⟩
    · have hp : plc l x = lo := HE2.out.symm.trans (halve_end hlt)
      have HPL := Lib.hid hp
      have HA : Hid (atP l x lo = (decide (lo < l.length) && decide (wd l lo = x))) := Lib.hid rfl
      clear hp
      by_cases hll : lo < l.length
      · obtain ⟨b, off, rfl, hb, q0, -, -, -⟩ := HC.out lo hll
        obtain ⟨y, hy⟩ : ∃ y, y = (l.getD lo none_Listed).1 := ⟨_, rfl⟩
        rw [← hy] at q0
        have HF : Hid (atP l x lo = decide (y = x)) := Lib.hid (by rw [HA.out, decide_eq_true hll, Bool.true_and]; show decide ((l.getD lo none_Listed).1 = x) = _; rw [← hy])
        have hs := str_beq y x
        obtain ⟨d, hd⟩ : ∃ d, d = decide (y = x) := ⟨_, rfl⟩
        rw [← hd] at HF hs
        clear hy hd HA
        go_wp2
        go_quiet (fail)
        all_goals go_wp2
        simp only [Exit.jump]
        go_ret2
        exact ⟨by rw [HPL.out, HF.out]; rfl, below_drewN (Below.refl _ _) _⟩
      · have HF : Hid (atP l x lo = false) := Lib.hid (by rw [HA.out, decide_eq_false hll, Bool.false_and])
        clear HA
        go_wp2
        go_quiet (fail)
        all_goals go_wp2
        simp only [Exit.jump]
        go_ret2
        exact ⟨by rw [HPL.out, HF.out]; rfl, below_drewN (Below.refl _ _) _⟩
  · rintro a' w' ⟨rfl, lo, hi, u8, u9, u10, u11, u12, u13, u14, u15, u16, u17, u18, u19, u20, u21, u22, u23, u24, u25, u26, u27, u28, u29, u30, u31, u32, u33, u34, u35, u36, u37, u38, u39, u40, u41, rfl, HH⟩
    obtain ⟨H, HE⟩ := HH.out
    have htop : hi ≤ l.length := H.top
    have HH2 := Lib.hid H
    have HE2 := Lib.hid HE
    clear HH H HE
    by_cases hlt : lo < hi
    · obtain ⟨m, hm⟩ : ∃ m, m = (lo + hi) / 2 := ⟨_, rfl⟩
      have hd : ((lo : Int) + (hi : Int)).tdiv 2 = (m : Int) := by
        rw [Int.tdiv_eq_ediv_of_nonneg (by omega), hm]
        omega
      have hm1 : lo ≤ m := by omega
      have hm2 : m < hi := by omega
      have hml : m < l.length := by omega
      obtain ⟨b, off, rfl, hb, q0, -, -, -⟩ := HC.out m hml
      have HUP := Lib.hid (fun h => halve_up (l := l) (x := x) hlt h)
      have HDN := Lib.hid (fun h => halve_down (l := l) (x := x) hlt h)
      rw [← hm] at HUP HDN
      obtain ⟨y, hy⟩ : ∃ y, y = (l.getD m none_Listed).1 := ⟨_, rfl⟩
      rw [← hy] at q0
      have HY : Hid (wd l m = y) := Lib.hid hy.symm
      obtain ⟨p, hp⟩ : ∃ p, p = befW y x := ⟨_, rfl⟩
      have HBW := Lib.hid (ibef_same y x)
      rw [← hp] at HBW
      have HP : Hid (befW (wd l m) x = p) := Lib.hid (by rw [HY.out, hp])
      clear hm hy hp
      have e1 : (m : Int) + 1 = ((m + 1 : Nat) : Int) := by omega
      have HE1 := Lib.hid e1
      clear e1
      cases p with
      | true =>
        go_wp2_with (go_at_call 44; refine (HBW.out _).mono ?_; rintro e w2 ⟨rfl, rfl⟩)
        go_step3
        rw [HE1.out]
        exact ⟨rfl, ⟨rfl, m + 1, hi, _, _, _, _, _, _, _, _, _, _, _, _, _, _, _, _, _, _, _, _, _, _, _, _, _, _, _, _, _, _, _, _, _, _, rfl, Lib.hid ⟨HH2.out.up hm2 HP.out, by rw [← HUP.out HP.out]; exact HE2.out⟩⟩, by simp [intOf]; omega⟩
      | false =>
        go_wp2_with (go_at_call 44; refine (HBW.out _).mono ?_; rintro e w2 ⟨rfl, rfl⟩)
        go_step3
        exact ⟨rfl, ⟨rfl, lo, m, _, _, _, _, _, _, _, _, _, _, _, _, _, _, _, _, _, _, _, _, _, _, _, _, _, _, _, _, _, _, _, _, _, _, rfl, Lib.hid ⟨HH2.out.down hm1 hm2 HP.out, by rw [← HDN.out HP.out]; exact HE2.out⟩⟩, by simp [intOf]; omega⟩
    · have hp : plc l x = lo := HE2.out.symm.trans (halve_end hlt)
      have HPL := Lib.hid hp
      have HA : Hid (atP l x lo = (decide (lo < l.length) && decide (wd l lo = x))) := Lib.hid rfl
      clear hp
      by_cases hll : lo < l.length
      · obtain ⟨b, off, rfl, hb, q0, -, -, -⟩ := HC.out lo hll
        obtain ⟨y, hy⟩ : ∃ y, y = (l.getD lo none_Listed).1 := ⟨_, rfl⟩
        rw [← hy] at q0
        have HF : Hid (atP l x lo = decide (y = x)) := Lib.hid (by rw [HA.out, decide_eq_true hll, Bool.true_and]; show decide ((l.getD lo none_Listed).1 = x) = _; rw [← hy])
        have hs := str_beq y x
        obtain ⟨d, hd⟩ : ∃ d, d = decide (y = x) := ⟨_, rfl⟩
        rw [← hd] at HF hs
        clear hy hd HA
        go_wp2
        go_quiet (fail)
        all_goals go_wp2
        simp only [Exit.jump]
        go_ret2
        exact ⟨by rw [HPL.out, HF.out]; rfl, below_drewN (Below.refl _ _) _⟩
      · have HF : Hid (atP l x lo = false) := Lib.hid (by rw [HA.out, decide_eq_false hll, Bool.false_and])
        clear HA
        go_wp2
        go_quiet (fail)
        all_goals go_wp2
        simp only [Exit.jump]
        go_ret2
        exact ⟨by rw [HPL.out, HF.out]; rfl, below_drewN (Below.refl _ _) _⟩
end Go.Proofs.Ytcpojeiciaghmaa
