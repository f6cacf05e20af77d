/-
  eachOnce and RepeatsIn of the program, RepeatsIn of the model; both as the exact law's walk takes them.
-/
import Derived.Test.YtmhgejljjjmejaaEachP
import Derived.BigQuiet
namespace Go.Proofs.Ytmhgejljjjmejaa
open Go.RowKit

theorem one_srcE (W : World) (v : Value) (t : TypeId) : ∀ j, j < 1 * 1 → ∃ b off, (some ⟨W.heap.size, 0, none⟩ : Option Addr) = some ⟨b, off, none⟩ ∧ (W.alloc (.cells #[v] t)).cell? ⟨b, off + j, none⟩ = [v][j]? := fun j hj => by
  obtain rfl : j = 0 := by omega
  exact ⟨W.heap.size, 0, rfl, by simp⟩
set_option maxHeartbeats 800000 in
theorem shasE_any (l : List ByteArray) (x : ByteArray) (hl : l.length ≤ 16777216) (v : Value) (w : World) (hv : ReadsS w.heap.size w v l) :
    Calls Try.prog 29 #[v, .string x] w fun e w' => e = .returned (.bool (hasW l x)) ∧ w = w' := by
  obtain ⟨-, a0, cap, rfl, -, hc⟩ := hv.cells
  have HC := Lib.hid hc
  clear hc hv
  go_enter Try.func29, Try.ntmps29
  go_wp2
  go_loop [5] (fun i => ∃ k : Nat, k ≤ l.length ∧ i = .int .i64 k ∧ Hid (∀ y ∈ l.take k, y ≠ x)) (fun i => l.length - (intOf i).toNat)
  case atStart => exact ⟨0, Nat.zero_le _, rfl, Lib.hid (by simp)⟩
  case round =>
    obtain ⟨k, hk, rfl, HN⟩ := hrel
    by_cases hlt : k < l.length
    · obtain ⟨b, off, rfl, hb, q0⟩ := HC.out k hlt
      have HT := Lib.hid (take_next l k ⟨#[]⟩ hlt)
      have HM := Lib.hid (getD_mem l k ⟨#[]⟩ hlt)
      obtain ⟨z, hz⟩ : ∃ z, z = l.getD k ⟨#[]⟩ := ⟨_, rfl⟩
      rw [← hz] at q0 HT HM
      clear hz
      by_cases he : z = x
      · subst he
        have HF := Lib.hid (hasW_yes HM.out)
        go_wp2
        go_ret
        first | exact ⟨by rw [HF.out]; rfl, rfl⟩ | exact HF.out.symm | exact HF.out
      · have hne := str_ne he
        have HN2 : Hid (∀ y ∈ l.take (k + 1), y ≠ x) := Lib.hid (fun y hy => by
          rw [HT.out] at hy
          rcases List.mem_append.1 hy with h | h
          · exact HN.out y h
          · simp only [List.mem_singleton] at h; subst h; exact he)
        go_wp2
        go_round
        case rel => exact ⟨k + 1, by omega, by go_num, HN2⟩
        case measure => simp [intOf]; omega
    · have HF : Hid (hasW l x = false) := Lib.hid (hasW_no (fun y hy => HN.out y (by rw [List.take_of_length_le (by omega)]; exact hy)))
      go_wp2
      go_ret
      first | exact ⟨by rw [HF.out]; rfl, rfl⟩ | exact HF.out.symm
/-- A list's head. -/
theorem reads_pre {B : Nat} {W : World} {a0 : Option Addr} {cap : Nat} {l : List ByteArray} (h : ReadsS B W (.slice a0 l.length cap) l) (k : Nat) (hk : k ≤ l.length) (_hk0 : 0 < k) : ReadsS B W (.slice a0 k cap) (l.take k) := by
  have hkl : (l.take k).length = k := by rw [List.length_take]; omega
  obtain ⟨h1, h2, a1, c1, e, hc, h⟩ := h
  injection e with e1 e2 e3
  subst e1 e3
  refine ⟨by omega, by rw [List.length_map]; omega, a0, cap, by rw [hkl], ⟨fun e => by have := hc.1 e; have := hc.2.1; omega, by have := hc.2.1; omega, hc.2.2⟩, fun j hj => ?_⟩
  rw [hkl] at hj
  obtain ⟨b, off, e1, e2, e3⟩ := h j (by omega)
  refine ⟨b, off, e1, e2, ?_⟩
  rw [e3, List.map_take, List.getElem?_take_of_lt (by omega)]
theorem reads_none (B : Nat) (W : World) (a0 : Option Addr) (cap : Nat) (h : CapOk a0 0 cap) : ReadsS B W (.slice a0 0 cap) [] := ⟨by decide, rfl, a0, cap, rfl, h, fun j hj => absurd hj (by simp)⟩
set_option maxRecDepth 100000 in
set_option maxHeartbeats 1600000 in
theorem sreps_any (l : List ByteArray) (hl : l.length ≤ 16777216) (v : Value) (w : World) (hv : ReadsS w.heap.size w v l) :
    Calls Try.prog 15 #[v] w fun e w' => e = .returned (.int .i64 (repsN l : Int)) ∧ Below w.heap.size w w' := by
  have HV := Lib.hid hv
  obtain ⟨-, a0, cap, rfl, hcap, hc⟩ := hv.cells
  have HC := Lib.hid hc
  have HCK := Lib.hid hcap
  clear hc hv hcap
  have hcap2 : l.length ≤ cap := HCK.out.2.1
  go_enter Try.func15, Try.ntmps15
  go_wp2
  go_loopw [3, 4] (fun n i wr => ∃ k : Nat, k ≤ l.length ∧ i = .int .i64 (k : Int) ∧ n = .int .i64 (repsN (l.take k) : Int) ∧ Hid (Below w.heap.size w wr)) (fun _ i _ => l.length - (intOf i).toNat)
  case atStart => exact ⟨0, Nat.zero_le _, rfl, rfl, Lib.hid (Below.refl _ _)⟩
  case round =>
    obtain ⟨k, hk, rfl, rfl, HB⟩ := hrel
    by_cases hlt : k < l.length
    · obtain ⟨b, off, rfl, hb, q0⟩ := HC.out k hlt
      have HRP : Hid (ReadsS w.heap.size w (.slice (some ⟨b, off, none⟩) k cap) (l.take k)) := Lib.hid (by
        rcases Nat.eq_zero_or_pos k with h0 | h0
        · subst h0
          exact reads_none _ _ _ _ ⟨(fun e => by cases e), Nat.zero_le _, HCK.out.2.2⟩
        · exact reads_pre HV.out k hk h0)
      have q0 := (HB.out.cell (p := ⟨b, off + k, none⟩) hb).trans q0
      have HRD : Hid (∀ n, ReadsS (wr.drewN n).heap.size (wr.drewN n) (.slice (some ⟨b, off, none⟩) k cap) (l.take k)) := Lib.hid (fun n => ReadsV.now (ReadsV.now HRP.out HB.out) (Joins.below_draws _ wr n))
      have HN := Lib.hid (repsN_next l k hlt)
      have HRL : Hid (repsN (l.take k) ≤ k) := Lib.hid (by unfold repsN; rw [List.length_take]; omega)
      obtain ⟨z, hz⟩ : ∃ z, z = l.getD k ⟨#[]⟩ := ⟨_, rfl⟩
      rw [← hz] at q0 HN
      clear hz
      have hkl : (l.take k).length = k := by rw [List.length_take]; omega
      have HHW := Lib.hid (fun W h => shasE_any (l.take k) z (by omega) (.slice (some ⟨b, off, none⟩) k cap) W h)
      obtain ⟨t, ht⟩ : ∃ t, t = hasW (l.take k) z := ⟨_, rfl⟩
      rw [← ht] at HHW HN
      obtain ⟨n, hn⟩ : ∃ n, n = repsN (l.take k) := ⟨_, rfl⟩
      rw [← hn] at HN HRL ⊢
      have hnk := HRL.out
      clear ht hn hkl
      have hkc : (k : Int) ≤ (cap : Int) := by omega
      have hkl2 : (k : Int) < (l.length : Int) := by omega
      have hkcn : k ≤ cap := by omega
      have hc1 : ¬ cap = 0 := by omega
      have hc2 : ¬ (0 : Int) = (cap : Int) := by omega
      have hc3 : (0 : Int) ≤ (cap : Int) := by omega
      have hd : decide ((k : Int) < (l.length : Int)) = true := decide_eq_true (by omega)
      go_wp2_with fail
      go_quiet (first | (go_at_call 29; exact (HHW.out _ (HRD.out _)).mono fun _ _ h => ⟨h.1, ⟨_, h.2.symm⟩⟩))
      cases t with
      | true =>
        have HN2 : Hid (repsN (l.take (k + 1)) = n + 1) := Lib.hid (by rw [HN.out, if_pos rfl])
        go_wp2
        go_roundw
        case rel => exact ⟨k + 1, by omega, by go_num, by rw [HN2.out]; go_num, Lib.hid (HB.out.trans (Joins.below_draws _ _ _))⟩
        case measure => simp [intOf]; omega
      | false =>
        have HN2 : Hid (repsN (l.take (k + 1)) = n) := Lib.hid (by rw [HN.out, if_neg (by decide)])
        go_wp2
        go_roundw
        case rel => exact ⟨k + 1, by omega, by go_num, by rw [HN2.out], Lib.hid (HB.out.trans (Joins.below_draws _ _ _))⟩
        case measure => simp [intOf]; omega
    · have hd : decide ((k : Int) < (l.length : Int)) = false := decide_eq_false (by omega)
      have HF : Hid (repsN (l.take k) = repsN l) := Lib.hid (by rw [List.take_of_length_le (by omega)])
      go_wp2
      go_ret
      exact ⟨by rw [HF.out]; rfl, HB.out⟩
set_option maxRecDepth 100000 in
set_option maxHeartbeats 1600000 in
theorem ieach_any (l : List ByteArray) (hl : l.length ≤ 8388608) (hz : ∀ z ∈ l, z.size ≤ 1048576) (v : Value) (w : World) (hv : ReadsS w.heap.size w v l) :
    Calls Try.prog 30 #[v] w fun e w' => ∃ v', e = .returned v' ∧ w'.ownsRow w.heap.size 9 1 v' (onceW l).length ((onceW l).map Value.string) ∧ Below w.heap.size w w' := by
  obtain ⟨i1, gi, gz0, gz1, gz2⟩ := info_parts infoStr
  have hmm := @run_makeMap Try.prog
  obtain ⟨-, a0, cap, rfl, -, hc⟩ := hv.cells
  have HC := Lib.hid hc
  have HZ := Lib.hid hz
  clear hc hv hz
  go_enter Try.func30, Try.ntmps30
  go_wp2_with fail
  obtain ⟨W1, hW1⟩ : ∃ W1, W1 = w.alloc (.cells #[] 9) := ⟨_, rfl⟩
  have hws : W1.heap.size = w.heap.size + 1 := by rw [hW1]; simp
  have HO0 : Hid (W1.ownsRow w.heap.size 9 1 (.slice (some ⟨w.heap.size, 0, none⟩) 0 0) 0 []) := Lib.hid (by rw [hW1]; exact own_empty2 w _ 1)
  have HB0 : Hid (Below w.heap.size w W1) := Lib.hid (by rw [hW1]; exact (Below.refl _ _).alloc (Nat.le_refl _) _)
  rw [← hW1]
  clear hW1
  have HM1 : Hid (WordMap (W1.alloc (.map #[] 0)) (w.heap.size + 1) []) := Lib.hid (by rw [← hws]; exact wm_made W1)
  have HO1 : Hid ((W1.alloc (.map #[] 0)).ownsRow w.heap.size 9 1 (.slice (some ⟨w.heap.size, 0, none⟩) 0 0) 0 []) := Lib.hid (HO0.out.alloc _)
  have HB1 : Hid (Below w.heap.size w (W1.alloc (.map #[] 0))) := Lib.hid (HB0.out.alloc HB0.out.size _)
  go_loopw [3, 11] (fun o i wr => ∃ k : Nat, k ≤ l.length ∧ i = .int .i64 (k : Int) ∧ Hid (WordMap wr (w.heap.size + 1) (onceW (l.take k))) ∧ Hid (wr.ownsRow w.heap.size 9 1 o (onceW (l.take k)).length ((onceW (l.take k)).map Value.string)) ∧ Hid (Below w.heap.size w wr)) (fun _ i _ => l.length - (intOf i).toNat)
  case atStart => exact ⟨0, Nat.zero_le _, rfl, HM1, HO1, HB1⟩
  case round =>
    clear HO0 HB0 HM1 HO1 HB1
    obtain ⟨k, hk, rfl, HM, HO, HB⟩ := hrel
    by_cases hlt : k < l.length
    · have hd : decide ((k : Int) < (l.length : Int)) = true := decide_eq_true (by omega)
      obtain ⟨b, off, rfl, hb, q0⟩ := HC.out k hlt
      have HNX := Lib.hid (onceW_next l k hlt)
      have HLE := Lib.hid (onceW_len l k)
      have HQ := Lib.hid (HZ.out _ (getD_mem l k ⟨#[]⟩ hlt))
      rw [← onceW_has] at HNX
      obtain ⟨x, hx⟩ : ∃ x, x = l.getD k ⟨#[]⟩ := ⟨_, rfl⟩
      rw [← hx] at q0 HNX HQ
      have c0 := (HB.out.cell (p := ⟨b, off + k, none⟩) hb).trans q0
      obtain ⟨L, hL⟩ : ∃ L, L = onceW (l.take k) := ⟨_, rfl⟩
      rw [← hL] at HM HO HNX HLE
      have hle := HLE.out
      have hq := HQ.out
      have hq9 : x.size ≤ maxLen := by unfold maxLen; omega
      have hl9 : L.length < maxLen := by unfold maxLen; omega
      have hrow := HO.out
      clear hx hL q0
      obtain ⟨t, ht⟩ : ∃ t, t = hasW L x := ⟨_, rfl⟩
      rw [← ht] at HNX
      have HT := Lib.hid ht
      clear ht
      cases t with
      | true =>
        have HNE : Hid (onceW (l.take (k + 1)) = L) := Lib.hid (by rw [HNX.out, if_pos rfl])
        go_wp2_with (at_lookup; refine wm_look rfl _ _ rfl (w.heap.size + 1) L rfl HM.out x rfl hq9 true HT.out ?_)
        go_roundw
        case rel => exact ⟨k + 1, by omega, by go_num, by rw [HNE.out]; exact HM, by rw [HNE.out]; exact HO, HB⟩
        case measure => simp [intOf]; omega
      | false =>
        have HNE : Hid (onceW (l.take (k + 1)) = L ++ [x]) := Lib.hid (by rw [HNX.out, if_neg (by decide)])
        have HNR := Lib.hid (wm_row HM.out HO.out)
        go_wp2_with (first | (at_lookup; refine wm_look rfl _ _ rfl (w.heap.size + 1) L rfl HM.out x rfl hq9 false HT.out ?_) | (at_mapUpdate; refine wm_put rfl _ _ _ rfl (w.heap.size + 1) L rfl HM.out hl9 x rfl rfl hq9 ?_; intro w5 hm5 hg5; have HM5 := Lib.hid hm5; have HO5 := Lib.hid (hrow.kept hg5 (.inr HNR.out)); have HB5 := Lib.hid (HB.out.grown hg5 HB.out.size (fun q h => by cases h; omega)); clear hm5 hg5) | (at_builtin; refine appendV_reads _ rfl _ _ 33 rfl w.heap.size 9 i1 (.string ⟨#[]⟩) 1 16 Try.underlying33 gi gz0 gz1 gz2 rfl (by decide) _ _ _ rfl (HO5.out.alloc _) (some ⟨w5.heap.size, 0, none⟩) 1 1 [.string x] rfl rfl (by simp [Value.oneCell']) (fun e => by cases e) (one_srcE w5 _ _) (by omega) (by omega) (le_alloc HB5.out.size _) ?_; intro v7 w7 hown hgrow))
        have HB7 := Lib.hid ((HB5.out.alloc HB5.out.size (.cells #[.string x] 9)).grown hgrow (le_alloc HB5.out.size _) (fun q h => (HO5.out.lt q h).1))
        have HM7 := Lib.hid (wm_kept (wm_alloc HM5.out (.cells #[.string x] 9)) hgrow (fun e => wm_row HM5.out HO5.out e.symm))
        have HO7 : Hid (w7.ownsRow w.heap.size 9 1 v7 (L ++ [x]).length ((L ++ [x]).map Value.string)) := Lib.hid (by
          rw [List.length_append, List.map_append]
          exact hown)
        clear hown hgrow
        go_roundw
        case rel => exact ⟨k + 1, by omega, by go_num, by rw [HNE.out]; exact HM7, by rw [HNE.out]; exact HO7, HB7⟩
        case measure => simp [intOf]; omega
    · have hd : decide ((k : Int) < (l.length : Int)) = false := decide_eq_false (by omega)
      have HF : Hid (onceW (l.take k) = onceW l) := Lib.hid (by rw [List.take_of_length_le (by omega)])
      rw [HF.out] at HO
      go_wp2
      go_ret
      exact ⟨_, rfl, HO.out, HB.out⟩
set_option maxHeartbeats 800000 in
theorem ireps_any (l : List ByteArray) (hl : l.length ≤ 8388608) (hz : ∀ z ∈ l, z.size ≤ 1048576) (v : Value) (w : World) (hv : ReadsS w.heap.size w v l) :
    Calls Try.prog 17 #[v] w fun e w' => e = .returned (.int .i64 (repsN l : Int)) ∧ Below w.heap.size w w' := by
  have HE := Lib.hid (ieach_any l hl hz v w hv)
  have HLE := Lib.hid (onceW_le l)
  have hle := HLE.out
  obtain ⟨-, a0, cap, rfl, -, -⟩ := hv.cells
  have HR : Hid ((repsN l : Int) = (l.length : Int) - ((onceW l).length : Int)) := Lib.hid (by unfold repsN; omega)
  obtain ⟨n, hn⟩ : ∃ n, n = (onceW l).length := ⟨_, rfl⟩
  rw [← hn] at HR hle
  have HNN := Lib.hid hn
  clear hn HLE hv hz
  go_enter Try.func17, Try.ntmps17
  go_wp2_with (go_at_call 30; refine HE.out.mono ?_; rintro e w1 ⟨v1, rfl, o1, b1⟩; rw [← HNN.out] at o1; obtain ⟨a1, c1, rfl⟩ := ownV_slice o1; have HB1 := Lib.hid b1; clear o1 b1)
  go_ret
  exact ⟨by rw [HR.out]; rfl, HB1.out⟩
/- As the exact law's walk takes them. -/
theorem u_RepeatsIn {l : List ByteArray} {r r' : Int} (h : r = (repsN l : Int)) (h' : r' = (repsN l : Int)) : r = r' := h.trans h'.symm
theorem s_RepeatsIn (v : Value) (l : List ByteArray) (w : World) (hv : ReadsS w.heap.size w v l) (hl : l.length ≤ 1048576) (_hz : ∀ z ∈ l, z.size ≤ 1048576) :
    Calls Try.prog 15 #[v] w fun e w' => ∃ r : Int, r = (repsN l : Int) ∧ e = .returned (.int .i64 r) ∧ Below w.heap.size w w' :=
  (sreps_any l (by omega) v w hv).mono fun _ _ ⟨h1, h2⟩ => ⟨_, rfl, h1, h2⟩
theorem i_RepeatsIn (v : Value) (l : List ByteArray) (w : World) (hv : ReadsS w.heap.size w v l) (hl : l.length ≤ 1048576) (hz : ∀ z ∈ l, z.size ≤ 1048576) :
    Calls Try.prog 17 #[v] w fun e w' => ∃ r : Int, r = (repsN l : Int) ∧ e = .returned (.int .i64 r) ∧ Below w.heap.size w w' :=
  (ireps_any l (by omega) hz v w hv).mono fun _ _ ⟨h1, h2⟩ => ⟨_, rfl, h1, h2⟩
end Go.Proofs.Ytmhgejljjjmejaa
