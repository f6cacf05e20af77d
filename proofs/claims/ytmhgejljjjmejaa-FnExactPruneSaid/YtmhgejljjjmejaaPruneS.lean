/-
  The model's contracts of chapter 12: l12Copy.
-/
import Derived.Test.YtmhgejljjjmejaaDomT
namespace Go.Proofs.Ytmhgejljjjmejaa
open Go.RowKit

theorem take_nextN {α : Type} (l : List α) (k : Nat) (d : α) (h : k < l.length) : l.take (k + 1) = l.take k ++ [l.getD k d] := by
  rw [List.take_succ_eq_append_getElem h]
  simp [List.getD, h]
theorem one_srcN (W : World) (v : Value) (t : TypeId) : ∀ j, j < 1 * 1 → ∃ b off, (some ⟨W.heap.size, 0, none⟩ : Option Addr) = some ⟨b, off, none⟩ ∧ (W.alloc (.cells #[v] t)).cell? ⟨b, off + j, none⟩ = [v][j]? := fun j hj => by
  obtain rfl : j = 0 := by omega
  exact ⟨W.heap.size, 0, rfl, by simp⟩
theorem one_strs (l : List ByteArray) : ∀ u ∈ l.map Value.string, u.oneCell' = true := by
  intro u hu
  obtain ⟨z, -, rfl⟩ := List.mem_map.1 hu
  rfl
set_option maxRecDepth 100000 in
set_option maxHeartbeats 3200000 in
theorem scopy12_any (D : List (List ByteArray)) (hl : D.length ≤ 1048576) (hm : ∀ m ∈ D, m.length ≤ 1048576) (v : Value) (w : World) (hv : ReadsN w.heap.size w v D) :
    Calls Try.prog 19 #[v] w fun e w' => ∃ v', e = .returned v' ∧ OwnT w' w.heap.size w'.heap.size v' D ∧ Below w.heap.size w w' := by
  obtain ⟨i0, hi, hz0, hz1, hz2⟩ := info_parts infoStrS
  obtain ⟨i1, gi, gz0, gz1, gz2⟩ := info_parts infoStr
  obtain ⟨-, a1, cap1, rfl, -, hc⟩ := hv.cells
  have HC := Lib.hid hc
  have HM := Lib.hid hm
  clear hc hm hv
  go_enter Try.func19, Try.ntmps19
  go_wp2_with fail
  have HO0 : Hid (OwnN fS 1 33 9 (w.alloc (.cells #[] 33)) w.heap.size (w.alloc (.cells #[] 33)).heap.size (.slice (some ⟨w.heap.size, 0, none⟩) 0 0) [] []) := Lib.hid (OwnN.empty (own_empty2 w _ 1))
  have HB0 := Lib.hid ((Below.refl w.heap.size w).alloc (Nat.le_refl _) (.cells #[] 33))
  go_loopw [3, 4] (fun o i wr => ∃ k : Nat, k ≤ D.length ∧ i = .int .i64 (k : Int) ∧ Hid (∃ us, OwnN fS 1 33 9 wr w.heap.size wr.heap.size o us (D.take k)) ∧ Hid (Below w.heap.size w wr)) (fun _ i _ => D.length - (intOf i).toNat)
  case atStart => exact ⟨0, Nat.zero_le _, rfl, Lib.hid ⟨_, HO0.out⟩, HB0⟩
  case round =>
    clear HO0 HB0
    obtain ⟨k, hk, rfl, ⟨us, hn⟩, HB⟩ := hrel
    have HO := Lib.hid hn
    clear hn
    by_cases hlt : k < D.length
    · have hd : decide ((k : Int) < (D.length : Int)) = true := decide_eq_true (by omega)
      have hd9 : decide (k < D.length) = true := decide_eq_true hlt
      obtain ⟨b, off, u, rfl, hb, q0, hu⟩ := HC.out k hlt
      have hml := HM.out _ (show D.getD k [] ∈ D by simp [List.getD, hlt])
      have HNX := Lib.hid (take_nextN D k [] hlt)
      have hkl : (D.take k).length = k := by simp; omega
      obtain ⟨L, hL⟩ : ∃ L, L = D.take k := ⟨_, rfl⟩
      rw [← hL] at HO HNX hkl
      obtain ⟨M, hM⟩ : ∃ M, M = D.getD k [] := ⟨_, rfl⟩
      rw [← hM] at hu hml HNX
      clear hL hM
      obtain ⟨au, cu, rfl⟩ : ∃ a c, u = .slice a M.length c := by obtain ⟨-, a0, cap, e, -⟩ := hu.cells; exact ⟨_, _, e⟩
      have HNIL := Lib.hid (nilV2 hu)
      have hu9 : ReadsV wr.heap.size wr (.slice au M.length cu) 1 M.length (M.map Value.string) := ReadsV.wide (ReadsV.later hu HB.out) HB.out.size
      have HSR := Lib.hid (fun o => srcV2 hu9 o)
      have c0 := (HB.out.cell (p := ⟨b, off + k, none⟩) hb).trans q0
      have c1 := (World.grownBy_alloc wr (.cells #[] 9) none).cell c0 (by simp)
      clear q0 hu hu9
      go_wp2_with (first | (at_builtin; refine appendV_reads _ rfl _ _ 33 rfl wr.heap.size 9 i1 (.string ⟨#[]⟩) 1 16 Try.underlying33 gi gz0 gz1 gz2 rfl (by decide) _ _ _ rfl (own_empty2 wr 9 1) au M.length cu (M.map Value.string) rfl (by simp) (one_strs M) HNIL.out (HSR.out _) (by omega) (by omega) (le_alloc (Nat.le_refl _) _) ?_; intro v5 w5 o5 hg5; rw [Nat.zero_add, List.nil_append] at o5; have b5 := ((Below.refl wr.heap.size wr).alloc (Nat.le_refl _) (.cells #[] 9)).grown hg5 (le_alloc (Nat.le_refl _) _) (fun q h => by cases h; exact Nat.le_refl _); obtain ⟨a5, c5, rfl⟩ := ownV_slice o5; have HB5 := Lib.hid (HB.out.trans (b5.mono HB.out.size)); have HO5 := Lib.hid (HO.out.later (Nat.le_refl _) b5); have HT5 := Lib.hid (fun q h => (o5.lt q h).1); have HU5 := Lib.hid (own_base (own_fS o5) HB.out.size); have HZ5 := Lib.hid b5.size; clear o5 b5 hg5) | (at_builtin; refine list_appendW _ rfl _ _ 24 rfl w.heap.size 33 i0 (.slice none 0 0) 1 24 Try.underlying24 hi hz0 hz1 hz2 rfl (by decide) _ _ _ rfl (HO5.out.row.alloc _) ⟨w5.heap.size, 0, none⟩ 1 1 [.slice a5 M.length c5] rfl rfl (by decide) (by simp [Value.oneCell']) (one_srcN w5 _ _) (by omega) (by omega) (le_alloc HB5.out.size _) ?_; intro v6 w6 hown hgrow hwhere))
      have HB6 := Lib.hid ((HB5.out.alloc HB5.out.size (.cells #[.slice a5 M.length c5] 33)).grown hgrow (le_alloc HB5.out.size _) (fun q h => (HO5.out.low q h).1))
      have HN6 := Lib.hid (HO5.out.appended HZ5.out _ HU5.out HT5.out hown hgrow hwhere)
      clear hown hgrow hwhere
      go_roundw
      case rel => exact ⟨k + 1, by omega, by go_num, Lib.hid ⟨_, by rw [HNX.out]; exact HN6.out⟩, HB6⟩
      case measure => simp [intOf]; omega
    · have hd : decide ((k : Int) < (D.length : Int)) = false := decide_eq_false (by omega)
      have hd9 : decide (k < D.length) = false := decide_eq_false hlt
      have HV : Hid (OwnT wr w.heap.size wr.heap.size u3 D) := Lib.hid ⟨us, by
        have h9 := HO.out
        rw [List.take_of_length_le (by omega)] at h9
        exact h9⟩
      go_wp2
      go_ret
      exact ⟨_, rfl, HV.out, HB.out⟩
end Go.Proofs.Ytmhgejljjjmejaa
