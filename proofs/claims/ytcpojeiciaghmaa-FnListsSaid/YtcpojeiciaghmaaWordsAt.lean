/-
  The model's contract of WordsAt.
-/
import Derived.Test.YtcpojeiciaghmaaIsList
import Derived.Deep.RegionHeld3
namespace Go.Proofs.Ytcpojeiciaghmaa
open Go.RowKit

/-- A listed word counts. -/
def onL (t : Int) (z : ByteArray × Int × Int × Int) : Bool := decide (z.2.1 ≤ t ∧ t ≤ z.2.2.1)
def onW (l : List (ByteArray × Int × Int × Int)) (t : Int) : List ByteArray := (l.filter (onL t)).map fun z => z.1
/-- What WordsAt answers. -/
def atW (l : List (ByteArray × Int × Int × Int)) (t : Int) : List ByteArray := if islW l = true then onW l t else []

theorem onW_next (l : List (ByteArray × Int × Int × Int)) (t : Int) (k : Nat) (h : k < l.length) : onW (l.take (k + 1)) t = onW (l.take k) t ++ (if onL t (l.getD k none_Listed) = true then [(l.getD k none_Listed).1] else []) := by
  unfold onW
  rw [take_next l k none_Listed h, List.filter_append, List.map_append]
  congr 1
  by_cases e : onL t (l.getD k none_Listed) = true
  · rw [if_pos e, List.filter_cons_of_pos e]; rfl
  · rw [if_neg e, List.filter_cons_of_neg e]; rfl
theorem onW_length (l : List (ByteArray × Int × Int × Int)) (t : Int) (k : Nat) : (onW (l.take k) t).length ≤ l.length := by
  unfold onW
  rw [List.length_map]
  refine Nat.le_trans (List.length_filter_le _ _) ?_
  rw [List.length_take]
  omega
theorem one_srcV (W : World) (v : Value) (t : TypeId) : ∀ j, j < 1 * 1 → ∃ b off, (some ⟨W.heap.size, 0, none⟩ : Option Addr) = some ⟨b, off, none⟩ ∧ (W.alloc (.cells #[v] t)).cell? ⟨b, off + j, none⟩ = [v][j]? := fun j hj => by
  obtain rfl : j = 0 := by omega
  exact ⟨W.heap.size, 0, rfl, by rw [World.cell?_alloc_mark]; rfl⟩

set_option maxHeartbeats 1600000 in
theorem sat_any (l : List (ByteArray × Int × Int × Int)) (t : Int) (hl : l.length ≤ 16777216) (v : Value) (w : World) (hv : ReadsListed w.heap.size w v l) :
    Calls Try.prog 25 #[v, .int .i64 t] w fun e w' => ∃ v', e = .returned v' ∧ w'.ownsRow w.heap.size 9 1 v' (atW l t).length ((atW l t).map Value.string) ∧ Below w.heap.size w w' := by
  obtain ⟨i0, hi, hz0, hz1, hz2⟩ := info_parts infoStr
  have HV := Lib.hid hv
  have HIS := Lib.hid (fun v w h => sislist_any l hl v w h)
  obtain ⟨-, a0, cap, rfl, -, hc⟩ := hv.cells
  have HC := Lib.hid hc
  clear hc hv
  obtain ⟨p, hp⟩ : ∃ p, p = islW l := ⟨_, rfl⟩
  have HA : Hid (atW l t = if p = true then onW l t else []) := Lib.hid (by unfold atW; rw [hp])
  rw [← hp] at HIS
  clear hp
  cases p with
  | true =>
    go_enter Try.func25, Try.ntmps25
    go_wp2
    go_loopw [5, 6] (fun o i wr => ∃ k : Nat, k ≤ l.length ∧ i = .int .i64 k ∧ Hid (wr.ownsRow w.heap.size 9 1 o (onW (l.take k) t).length ((onW (l.take k) t).map Value.string)) ∧ Below w.heap.size w wr) (fun _ i _ => l.length - (intOf i).toNat)
    case atStart => exact ⟨0, Nat.zero_le _, rfl, Lib.hid (own_empty w 9), (Below.refl _ _).alloc (Nat.le_refl _) _⟩
    case round =>
      obtain ⟨k, hk, rfl, HO, hbl⟩ := hrel
      by_cases hlt : k < l.length
      · obtain ⟨b, off, rfl, hb, q0, q1, q2, -⟩ := HC.out k hlt
        have HNX := Lib.hid (onW_next l t k hlt)
        have HLN := Lib.hid (onW_length l t k)
        obtain ⟨z, hz⟩ : ∃ z, z = l.getD k none_Listed := ⟨_, rfl⟩
        rw [← hz] at q0 q1 q2 HNX
        obtain ⟨x, f, u, s⟩ := z
        obtain ⟨q, hq⟩ : ∃ q, q = decide (f ≤ t ∧ t ≤ u) := ⟨_, rfl⟩
        have HIN := Lib.hid (lin_any t f u)
        rw [← hq] at HIN
        have HQ0 := Lib.hid q0
        have HQ1 := Lib.hid q1
        have HQ2 := Lib.hid q2
        rw [show onL t (x, f, u, s) = q from hq.symm] at HNX
        obtain ⟨n, hn⟩ : ∃ n, n = (onW (l.take k) t).length := ⟨_, rfl⟩
        have hn2 : n ≤ l.length := by rw [hn]; exact HLN.out
        obtain ⟨L, hL⟩ : ∃ L, L = onW (l.take k) t := ⟨_, rfl⟩
        rw [← hn, ← hL] at HO
        rw [← hL] at HNX
        have HN := Lib.hid (hn.trans (by rw [← hL]) : n = L.length)
        clear q0 q1 q2 hz hq hn hL
        cases q with
        | true =>
          go_wp2_with (go_at_call 22; refine (HIS.out _ _ (HV.out.now hbl)).mono ?_; rintro e w2 ⟨rfl, b2⟩; have HB2 := Lib.hid (hbl.trans (b2.mono hbl.size)); have HO2 := Lib.hid (ownV_later HO.out b2); clear b2)
          have c0 := (HB2.out.cell (p := ⟨b, off + k * 4, none⟩) hb).trans HQ0.out
          have c1 := (HB2.out.cell (p := ⟨b, off + k * 4 + 1, none⟩) hb).trans HQ1.out
          have c2 := (HB2.out.cell (p := ⟨b, off + k * 4 + 2, none⟩) hb).trans HQ2.out
          go_quiet (first | (go_at_call 55; exact Calls.quiet_of_same ((HIN.out _).mono fun _ _ h => ⟨h.1, h.2.symm⟩)))
          obtain ⟨W, hW⟩ : ∃ W, W = w2.drewN nq := ⟨_, rfl⟩
          rw [← hW]
          have c3 : W.cell? ⟨b, off + k * 4, none⟩ = some (.string x) := by rw [hW]; exact c0
          have HB3 : Hid (Below w.heap.size w W) := Lib.hid (by rw [hW]; exact below_drewN HB2.out _)
          have HO3 : Hid (W.ownsRow w.heap.size 9 1 u5 n (L.map Value.string)) := Lib.hid (by rw [hW]; exact HO2.out)
          clear hW c0 c1 c2
          go_wp2_with (at_builtin; refine appendV_reads _ rfl _ _ 27 rfl w.heap.size 9 i0 (.string ⟨#[]⟩) 1 16 Try.underlying27 hi hz0 hz1 hz2 rfl (by decide) _ _ _ rfl (HO3.out.alloc _) (some ⟨W.heap.size, 0, none⟩) 1 1 [.string x] rfl rfl (by simp [Value.oneCell']) (fun e => by cases e) (one_srcV W _ _) (by omega) (by omega) (le_alloc HB3.out.size _) ?_; intro v4 w4 hown hgrow)
          have HB4 := Lib.hid (below_own (HB3.out.alloc HB3.out.size _) hgrow (HO3.out.alloc _) (Nat.le_refl _) (le_alloc HB3.out.size _))
          have HO4 : Hid (w4.ownsRow w.heap.size 9 1 v4 (onW (l.take (k + 1)) t).length ((onW (l.take (k + 1)) t).map Value.string)) := Lib.hid (by
            rw [HNX.out, if_pos (by trivial), List.length_append, List.map_append, ← HN.out]
            exact hown)
          clear hown hgrow
          go_roundw
          case rel => exact ⟨k + 1, by omega, by go_num, HO4, HB4.out⟩
          case measure => simp [intOf]; omega
        | false =>
          go_wp2_with (go_at_call 22; refine (HIS.out _ _ (HV.out.now hbl)).mono ?_; rintro e w2 ⟨rfl, b2⟩; have HB2 := Lib.hid (hbl.trans (b2.mono hbl.size)); have HO2 := Lib.hid (ownV_later HO.out b2); clear b2)
          have c0 := (HB2.out.cell (p := ⟨b, off + k * 4, none⟩) hb).trans HQ0.out
          have c1 := (HB2.out.cell (p := ⟨b, off + k * 4 + 1, none⟩) hb).trans HQ1.out
          have c2 := (HB2.out.cell (p := ⟨b, off + k * 4 + 2, none⟩) hb).trans HQ2.out
          go_quiet (first | (go_at_call 55; exact Calls.quiet_of_same ((HIN.out _).mono fun _ _ h => ⟨h.1, h.2.symm⟩)))
          have HO4 : Hid ((w2.drewN nq).ownsRow w.heap.size 9 1 u5 (onW (l.take (k + 1)) t).length ((onW (l.take (k + 1)) t).map Value.string)) := Lib.hid (by
            rw [HNX.out, if_neg (by simp), List.append_nil, ← HN.out]
            exact HO2.out)
          all_goals go_wp2
          go_roundw
          case rel => exact ⟨k + 1, by omega, by go_num, HO4, below_drewN HB2.out _⟩
          case measure => simp [intOf]; omega
      · have HF : Hid (wr.ownsRow w.heap.size 9 1 u5 (atW l t).length ((atW l t).map Value.string)) := Lib.hid (by
          rw [HA.out, if_pos (by trivial)]
          have h9 := HO.out
          rw [List.take_of_length_le (by omega)] at h9
          exact h9)
        go_wp2
        go_ret
        exact ⟨_, rfl, HF.out, hbl⟩
  | false =>
    have HA2 : Hid (atW l t = []) := Lib.hid (by rw [HA.out, if_neg (by simp)])
    clear HA
    go_enter Try.func25, Try.ntmps25
    go_wp2
    go_loopw [5, 6] (fun o i wr => i = .int .i64 0 ∧ Hid (wr.ownsRow w.heap.size 9 1 o 0 []) ∧ Below w.heap.size w wr) (fun _ _ _ => 0)
    case atStart => exact ⟨rfl, Lib.hid (own_empty w 9), (Below.refl _ _).alloc (Nat.le_refl _) _⟩
    case round =>
      obtain ⟨rfl, HO, hbl⟩ := hrel
      by_cases hlt : 0 < l.length
      · go_wp2_with (go_at_call 22; refine (HIS.out _ _ (HV.out.now hbl)).mono ?_; rintro e w2 ⟨rfl, b2⟩; have HB2 := Lib.hid (hbl.trans (b2.mono hbl.size)); have HO2 := Lib.hid (ownV_later HO.out b2); clear b2)
        go_ret
        exact ⟨_, rfl, by rw [HA2.out]; exact HO2.out, HB2.out⟩
      · go_wp2
        go_ret
        exact ⟨_, rfl, by rw [HA2.out]; exact HO.out, hbl⟩
end Go.Proofs.Ytcpojeiciaghmaa
