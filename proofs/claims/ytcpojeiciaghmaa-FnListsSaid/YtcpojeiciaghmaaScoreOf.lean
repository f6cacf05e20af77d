/-
  The model's contract of ScoreOf.
-/
import Derived.Test.YtcpojeiciaghmaaIsList
namespace Go.Proofs.Ytcpojeiciaghmaa
open Go.RowKit

/-- A word's score in a list. -/
def scoreAt (l : List (ByteArray × Int × Int × Int)) (x : ByteArray) : Int := if findL l x < 0 then 0 else (l.getD (findL l x).toNat none_Listed).2.2.2
def scoreSum (l : List (ByteArray × Int × Int × Int)) (ws : List ByteArray) : Int := (ws.map (scoreAt l)).sum
/-- What ScoreOf answers. -/
def scoreW (l : List (ByteArray × Int × Int × Int)) (ws : List ByteArray) : Int := if islW l = true then scoreSum l ws else 0
theorem findL_range (l : List (ByteArray × Int × Int × Int)) (x : ByteArray) : findL l x = -1 ∨ ∃ k : Nat, k < l.length ∧ findL l x = k := by
  unfold findL
  by_cases h : l.findIdx (fun y => decide (y.1 = x)) < l.length
  · rw [if_pos h]; exact Or.inr ⟨_, h, rfl⟩
  · rw [if_neg h]; exact Or.inl rfl
theorem scoreAt_range {l : List (ByteArray × Int × Int × Int)} (h : islW l = true) (x : ByteArray) : 0 ≤ scoreAt l x ∧ scoreAt l x ≤ 99 := by
  unfold scoreAt
  rcases findL_range l x with e | ⟨k, hk, e⟩
  · rw [e, if_pos (by decide)]; decide
  · rw [e, if_neg (by omega), Int.toNat_natCast]
    have h1 := ((of_decide_eq_true h).2 k hk).1
    unfold okL at h1
    simp only [Bool.and_eq_true, decide_eq_true_eq] at h1
    exact h1.2
theorem scoreSum_next (l : List (ByteArray × Int × Int × Int)) (ws : List ByteArray) (k : Nat) (h : k < ws.length) : scoreSum l (ws.take (k + 1)) = scoreSum l (ws.take k) + scoreAt l (ws.getD k ⟨#[]⟩) := by
  unfold scoreSum
  rw [take_next ws k ⟨#[]⟩ h, List.map_append, List.sum_append]
  simp

set_option maxHeartbeats 1600000 in
theorem sscore_any (l : List (ByteArray × Int × Int × Int)) (ws : List ByteArray) (hl : l.length ≤ 16777216) (hw : ws.length ≤ 16777216) (v u : Value) (w : World) (hv : ReadsListed w.heap.size w v l) (hu : ReadsS w.heap.size w u ws) :
    Calls Try.prog 36 #[v, u] w fun e w' => e = .returned (.int .i64 (scoreW l ws)) ∧ Below w.heap.size w w' := by
  have HV := Lib.hid hv
  have HIS := Lib.hid (fun v w h => sislist_any l hl v w h)
  have HFI := Lib.hid (fun x v w h => sfind_any l x hl v w h)
  obtain ⟨-, a0, cap, rfl, -, hc⟩ := hv.cells
  obtain ⟨-, a1, cap1, rfl, -, hd⟩ := hu.cells
  have HC := Lib.hid hc
  have HD := Lib.hid hd
  clear hc hv hd hu
  obtain ⟨p, hp⟩ : ∃ p, p = islW l := ⟨_, rfl⟩
  have HA : Hid (scoreW l ws = if p = true then scoreSum l ws else 0) := Lib.hid (by unfold scoreW; rw [hp])
  have HR : Hid (p = true → ∀ x, 0 ≤ scoreAt l x ∧ scoreAt l x ≤ 99) := Lib.hid (fun h x => scoreAt_range (by rw [← hp]; exact h) x)
  rw [← hp] at HIS
  clear hp
  cases p with
  | true =>
    go_enter Try.func36, Try.ntmps36
    go_wp2
    go_loopw [5, 6] (fun nv i wr => ∃ (k : Nat) (n : Int), k ≤ ws.length ∧ i = .int .i64 k ∧ nv = .int .i64 n ∧ Hid (n = scoreSum l (ws.take k)) ∧ 0 ≤ n ∧ n ≤ 99 * k ∧ Below w.heap.size w wr) (fun _ i _ => ws.length - (intOf i).toNat)
    case atStart => exact ⟨0, 0, Nat.zero_le _, rfl, rfl, Lib.hid (by simp [scoreSum]), by decide, by decide, Below.refl _ _⟩
    case round =>
      obtain ⟨k, n, hk, rfl, rfl, HN, hn0, hn1, hbl⟩ := hrel
      by_cases hlt : k < ws.length
      · obtain ⟨b1, off1, rfl, hb1, q0⟩ := HD.out k hlt
        have HNX := Lib.hid (scoreSum_next l ws k hlt)
        obtain ⟨x, hx⟩ : ∃ x, x = ws.getD k ⟨#[]⟩ := ⟨_, rfl⟩
        rw [← hx] at q0 HNX
        have QX := Lib.hid q0
        have HRX := HR.out trivial x
        have HFX := Lib.hid (HFI.out x)
        clear q0 hx
        rcases findL_range l x with e | ⟨j, hj, e⟩
        · have HS : Hid (scoreAt l x = 0) := Lib.hid (by unfold scoreAt; rw [e, if_pos (by decide)])
          rw [e] at HFX
          clear e HRX
          have HN2 : Hid (n = scoreSum l (ws.take (k + 1))) := Lib.hid (by rw [HNX.out, HS.out, ← HN.out]; omega)
          go_wp2_with (first | (go_at_call 22; refine (HIS.out _ _ (HV.out.now hbl)).mono ?_; rintro e w2 ⟨rfl, b2⟩; have HB2 := Lib.hid (hbl.trans (b2.mono hbl.size)); have cx := (HB2.out.cell (p := ⟨b1, off1 + k, none⟩) hb1).trans QX.out; clear b2) | (go_at_call 59; refine (HFX.out _ _ (HV.out.now HB2.out)).mono ?_; rintro e w3 ⟨rfl, b3⟩; have HB3 := Lib.hid (HB2.out.trans (b3.mono HB2.out.size)); clear b3))
          go_roundw
          case rel => exact ⟨k + 1, n, by omega, by go_num, rfl, HN2, by omega, by omega, HB3.out⟩
          case measure => simp [intOf]; omega
        · obtain ⟨b, off, rfl, hb, -, -, -, q3⟩ := HC.out j hj
          obtain ⟨s, hs⟩ : ∃ s, s = (l.getD j none_Listed).2.2.2 := ⟨_, rfl⟩
          rw [← hs] at q3
          have HS : Hid (scoreAt l x = s) := Lib.hid (by unfold scoreAt; rw [e, if_neg (by omega), Int.toNat_natCast, hs])
          rw [HS.out] at HRX
          rw [e] at HFX
          have QS := Lib.hid q3
          clear e q3 hs
          have HN2 : Hid (n + s = scoreSum l (ws.take (k + 1))) := Lib.hid (by rw [HNX.out, HS.out, ← HN.out])
          go_wp2_with (first | (go_at_call 22; refine (HIS.out _ _ (HV.out.now hbl)).mono ?_; rintro e w2 ⟨rfl, b2⟩; have HB2 := Lib.hid (hbl.trans (b2.mono hbl.size)); have cx := (HB2.out.cell (p := ⟨b1, off1 + k, none⟩) hb1).trans QX.out; clear b2) | (go_at_call 59; refine (HFX.out _ _ (HV.out.now HB2.out)).mono ?_; rintro e w3 ⟨rfl, b3⟩; have HB3 := Lib.hid (HB2.out.trans (b3.mono HB2.out.size)); clear b3; have cs := (HB3.out.cell (p := ⟨b, off + j * 4 + 3, none⟩) hb).trans QS.out))
          go_roundw
          case rel => exact ⟨k + 1, n + s, by omega, by go_num, by go_num, HN2, by omega, by omega, HB3.out⟩
          case measure => simp [intOf]; omega
      · have HF : Hid (scoreW l ws = n) := Lib.hid (by rw [HA.out, if_pos (by trivial), HN.out, List.take_of_length_le (by omega)])
        go_wp2
        go_ret
        exact ⟨by rw [HF.out]; rfl, hbl⟩
  | false =>
    have HA2 : Hid (scoreW l ws = 0) := Lib.hid (by rw [HA.out, if_neg (by simp)])
    clear HA HR
    go_enter Try.func36, Try.ntmps36
    go_wp2
    go_loopw [5, 6] (fun nv i wr => i = .int .i64 0 ∧ nv = .int .i64 0 ∧ Below w.heap.size w wr) (fun _ _ _ => 0)
    case atStart => exact ⟨rfl, rfl, Below.refl _ _⟩
    case round =>
      obtain ⟨rfl, rfl, hbl⟩ := hrel
      by_cases hlt : 0 < ws.length
      · go_wp2_with (go_at_call 22; refine (HIS.out _ _ (HV.out.now hbl)).mono ?_; rintro e w2 ⟨rfl, b2⟩; have HB2 := Lib.hid (hbl.trans (b2.mono hbl.size)); clear b2)
        go_ret
        exact ⟨by rw [HA2.out]; rfl, HB2.out⟩
      · go_wp2
        go_ret
        exact ⟨by rw [HA2.out]; rfl, hbl⟩
end Go.Proofs.Ytcpojeiciaghmaa
