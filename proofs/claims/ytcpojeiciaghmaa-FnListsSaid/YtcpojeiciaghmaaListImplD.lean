/-
  The program's contracts of chapter 5: WordsAt, slices.Clone of a list, listOr.
-/
import Derived.Test.YtcpojeiciaghmaaListImplC
namespace Go.Proofs.Ytcpojeiciaghmaa
open Go.RowKit

set_option maxHeartbeats 1600000 in
theorem iat_any (l : LZ) (t : Int) (hl : l.length ≤ 16777216) (v : Value) (w : World) (hv : ReadsListed w.heap.size w v l) :
    Calls Try.prog 12 #[v, .int .i64 t] w fun e w' => ∃ v', e = .returned v' ∧ w'.ownsRow w.heap.size 9 1 v' (atW l t).length ((atW l t).map Value.string) ∧ Below w.heap.size w w' := by
  obtain ⟨i0, hi, hz0, hz1, hz2⟩ := info_parts infoStr
  have HV := Lib.hid hv
  have HIS := Lib.hid (fun v w h => iislist_any l hl v w h)
  obtain ⟨-, a0, cap, rfl, -, hc⟩ := hv.cells
  have HC := Lib.hid hc
  clear hc hv
  obtain ⟨p, hp⟩ : ∃ p, p = islW l := ⟨_, rfl⟩
  have HA : Hid (atW l t = if p = true then onW l t else []) := Lib.hid (by unfold atW; rw [hp])
  rw [← hp] at HIS
  clear hp
  cases p with
  | true =>
    go_enter Try.func12, Try.ntmps12
    go_wp2_with (go_at_call 13; refine (HIS.out _ _ (HV.out.now ((Below.refl _ _).alloc (Nat.le_refl _) _))).mono ?_; rintro e w2 ⟨rfl, b2⟩; have HB2 := Lib.hid (((Below.refl w.heap.size w).alloc (Nat.le_refl _) (.cells #[] 9)).trans (b2.mono (by simp))); have HO2 := Lib.hid (ownV_later (own_empty w 9) b2); clear b2)
    go_loopw [5, 15] (fun o i wr => ∃ k : Nat, k ≤ l.length ∧ i = .int .i64 k ∧ Hid (wr.ownsRow w.heap.size 9 1 o (onW (l.take k) t).length ((onW (l.take k) t).map Value.string)) ∧ Below w.heap.size w wr) (fun _ i _ => l.length - (intOf i).toNat)
    case atStart => exact ⟨0, Nat.zero_le _, rfl, HO2, HB2.out⟩
    case round =>
      obtain ⟨k, hk, rfl, HO, hbl⟩ := hrel
      clear HO2 HB2
      by_cases hlt : k < l.length
      · obtain ⟨b, off, rfl, hb, q0, q1, q2, q3⟩ := HC.out k hlt
        have HNX := Lib.hid (onW_next l t k hlt)
        have HLN := Lib.hid (onW_length l t k)
        obtain ⟨z, hz⟩ : ∃ z, z = l.getD k none_Listed := ⟨_, rfl⟩
        rw [← hz] at q0 q1 q2 q3 HNX
        obtain ⟨x, f, u, s⟩ := z
        obtain ⟨q, hq⟩ : ∃ q, q = decide (f ≤ t ∧ t ≤ u) := ⟨_, rfl⟩
        have HIN := Lib.hid (inr_any t f u)
        rw [← hq] at HIN
        have c0 := (hbl.cell (p := ⟨b, off + k * 4, none⟩) hb).trans q0
        have c1 := (hbl.cell (p := ⟨b, off + k * 4 + 1, none⟩) hb).trans q1
        have c2 := (hbl.cell (p := ⟨b, off + k * 4 + 2, none⟩) hb).trans q2
        have c3 := (hbl.cell (p := ⟨b, off + k * 4 + 3, none⟩) hb).trans q3
        rw [show onL t (x, f, u, s) = q from hq.symm] at HNX
        obtain ⟨n, hn⟩ : ∃ n, n = (onW (l.take k) t).length := ⟨_, rfl⟩
        have hn2 : n ≤ l.length := by rw [hn]; exact HLN.out
        obtain ⟨L, hL⟩ : ∃ L, L = onW (l.take k) t := ⟨_, rfl⟩
        rw [← hn, ← hL] at HO
        rw [← hL] at HNX
        have HN := Lib.hid (hn.trans (by rw [← hL]) : n = L.length)
        clear q0 q1 q2 q3 hz hq hn hL
        cases q with
        | true =>
          go_wp2_with (first | (go_at_call 42; ((with_reducible refine (HIN.out _).mono ?_); rintro e w2 ⟨rfl, hw⟩; have HB3 : Hid (Below w.heap.size w w2) := Lib.hid (by rw [← hw]; exact hbl.alloc hbl.size _); have HO3 : Hid (w2.ownsRow w.heap.size 9 1 u5 n (L.map Value.string)) := Lib.hid (by rw [← hw]; exact HO.out.alloc _); have z0 : w2.cell? ⟨wr.heap.size, 0, none⟩ = some (.string x) := (by rw [← hw]; exact (box4 wr x f u s _).1); clear hw)) | (at_builtin; refine appendV_reads _ rfl _ _ 27 rfl w.heap.size 9 i0 (.string ⟨#[]⟩) 1 16 Try.underlying27 hi hz0 hz1 hz2 rfl (by decide) _ _ _ rfl (HO3.out.alloc _) (some ⟨w2.heap.size, 0, none⟩) 1 1 [.string x] rfl rfl (by simp [Value.oneCell']) (fun e => by cases e) (one_srcV w2 _ _) (by omega) (by omega) (le_alloc HB3.out.size _) ?_; intro v4 w4 hown hgrow))
          have HB4 := Lib.hid (below_own (HB3.out.alloc HB3.out.size _) hgrow (HO3.out.alloc _) (Nat.le_refl _) (le_alloc HB3.out.size _))
          have HO4 : Hid (w4.ownsRow w.heap.size 9 1 v4 (onW (l.take (k + 1)) t).length ((onW (l.take (k + 1)) t).map Value.string)) := Lib.hid (by
            rw [HNX.out, if_pos (by trivial), List.length_append, List.map_append, ← HN.out]
            exact hown)
          clear hown hgrow
          go_roundw
          case rel => exact ⟨k + 1, by omega, by go_num, HO4, HB4.out⟩
          case measure => simp [intOf]; omega
        | false =>
          go_wp2_with (go_at_call 42; ((with_reducible refine (HIN.out _).mono ?_); rintro e w2 ⟨rfl, hw⟩; have HB3 : Hid (Below w.heap.size w w2) := Lib.hid (by rw [← hw]; exact hbl.alloc hbl.size _); have HO3 : Hid (w2.ownsRow w.heap.size 9 1 u5 n (L.map Value.string)) := Lib.hid (by rw [← hw]; exact HO.out.alloc _); clear hw))
          have HO4 : Hid (w2.ownsRow w.heap.size 9 1 u5 (onW (l.take (k + 1)) t).length ((onW (l.take (k + 1)) t).map Value.string)) := Lib.hid (by
            rw [HNX.out, if_neg (by simp), List.append_nil, ← HN.out]
            exact HO3.out)
          go_roundw
          case rel => exact ⟨k + 1, by omega, by go_num, HO4, HB3.out⟩
          case measure => simp [intOf]; omega
      · have HF : Hid (wr.ownsRow w.heap.size 9 1 u5 (atW l t).length ((atW l t).map Value.string)) := Lib.hid (by
          rw [HA.out, if_pos (by trivial)]
          have h9 := HO.out
          rw [List.take_of_length_le (by omega)] at h9
          exact h9)
        go_wp2
        go_ret
        exact ⟨_, rfl, HF.out, hbl⟩
  | false =>
    have HA2 : Hid (atW l t = []) := Lib.hid (by rw [HA.out, if_neg (by simp)])
    clear HA
    go_enter Try.func12, Try.ntmps12
    go_wp2_with (go_at_call 13; refine (HIS.out _ _ (HV.out.now ((Below.refl _ _).alloc (Nat.le_refl _) _))).mono ?_; rintro e w2 ⟨rfl, b2⟩; have HB2 := Lib.hid (((Below.refl w.heap.size w).alloc (Nat.le_refl _) (.cells #[] 9)).trans (b2.mono (by simp))); have HO2 := Lib.hid (ownV_later (own_empty w 9) b2); clear b2)
    go_ret
    exact ⟨_, rfl, by rw [HA2.out]; exact HO2.out, HB2.out⟩

set_option maxHeartbeats 1600000 in
/-- slices.Clone of a list. -/
theorem clone_l (l : LZ) (hl : l.length ≤ 1048576) (v : Value) (w : World) (hv : ReadsListed w.heap.size w v l) :
    Calls Try.prog 51 #[v] w fun e w' => ∃ v', e = .returned v' ∧ w'.ownsRow w.heap.size 32 4 v' l.length (row_Listed l) ∧ Below w.heap.size w w' := by
  obtain ⟨i0, hi, hz0, hz1, hz2⟩ := info_parts info_Listed
  have q22 : ∀ (w : World) (a : Option Addr) (n c n' c' : Nat), (binOp .eql 24 (.slice a n c) (.slice none n' c')).run Try.prog w = .ok (.bool a.isNone) w := fun w a n c n' c' => Lib.run_eql_slice_nil w _ _ a n c n' c' Try.underlying24
  have HV := Lib.hid hv
  obtain ⟨-, a0, cap, rfl, -, hc⟩ := hv.cells
  have HC := Lib.hid hc
  have HNIL := Lib.hid (nilV hv)
  have HONE := Lib.hid (row_Listed_one l)
  have HLEN := Lib.hid (row_Listed_length l)
  have HS0 := Lib.hid (fun o => srcV hv o)
  clear hc hv
  cases a0 with
  | none =>
    have h0 : l.length = 0 := by
      rcases Nat.eq_zero_or_pos l.length with h | h
      · exact h
      · obtain ⟨b, off, e, -⟩ := HC.out 0 h
        cases e
    obtain rfl := List.length_eq_zero_iff.1 h0
    have hc0 := HNIL.out rfl
    subst hc0
    clear h0
    go_enter Try.func51, Try.ntmps51
    go_wp2
    go_ret
    exact ⟨_, rfl, World.ownsRow_nil w _ _ _, Below.refl _ _⟩
  | some ad =>
    go_enter Try.func51, Try.ntmps51
    go_wp2_with (at_builtin; refine appendV_reads _ rfl _ _ 24 rfl w.heap.size 32 i0 (.agg #[.string ⟨#[]⟩, .int .i64 0, .int .i64 0, .int .i64 0]) 4 40 Try.underlying24 hi hz0 hz1 hz2 rfl (by decide) _ _ _ rfl (own_emptyV w 32 4) _ l.length cap (row_Listed l) rfl HLEN.out HONE.out HNIL.out (HS0.out _) (by omega) (by omega) (le_alloc (Nat.le_refl _) _) ?_; intro v2 w2 hown hgrow; have HB2 := Lib.hid ((((Below.refl w.heap.size w).alloc (Nat.le_refl _) (.cells #[] 32))).grown hgrow (le_alloc (Nat.le_refl _) _) (fun k hk => by cases hk; exact Nat.le_refl _)))
    rw [Nat.zero_add, List.nil_append] at hown
    go_ret
    exact ⟨_, rfl, hown, HB2.out⟩

set_option maxHeartbeats 1600000 in
/-- listOr. -/
theorem ilor_any (l m : LZ) (n : Nat) (hn : m.length = n) (hl : l.length ≤ 1048576) (hm : m.length ≤ 1048576) (base : Nat) (v u : Value) (w : World) (hb : base ≤ w.heap.size) (hv : ReadsListed w.heap.size w v l) (hu : w.ownsRow base 32 4 u n (row_Listed m)) :
    Calls Try.prog 49 #[v, u] w fun e w' => ∃ v', e = .returned (.tuple #[v', .bool (islW m)]) ∧ w'.ownsRow base 32 4 v' (if islW m = true then m else l).length (row_Listed (if islW m = true then m else l)) ∧ Below w.heap.size w w' := by
  subst hn
  have HV := Lib.hid hv
  have HU := Lib.hid hu
  have HIS := Lib.hid (iislist_any m (by omega) u w (reads_Listed_own hu rfl (by omega)))
  have HCL := Lib.hid (fun w h => clone_l l hl v w h)
  obtain ⟨-, a0, cap, rfl, -, -⟩ := hv.cells
  obtain ⟨a1, c1, rfl⟩ := ownV_slice hu
  obtain ⟨p, hp⟩ : ∃ p, p = islW m := ⟨_, rfl⟩
  obtain ⟨r, hr⟩ : ∃ r, r = if p = true then m else l := ⟨_, rfl⟩
  have HR := Lib.hid hr
  rw [← hp] at HIS ⊢
  rw [← hr]
  clear hv hu hp hr
  cases p with
  | true =>
    go_enter Try.func49, Try.ntmps49
    go_wp2_with (go_at_call 13; refine HIS.out.mono ?_; rintro e w2 ⟨rfl, b2⟩; have HB2 := Lib.hid b2; have HO2 := Lib.hid (ownV_later HU.out b2); clear b2)
    go_ret2
    exact ⟨_, rfl, by rw [HR.out, if_pos (by trivial)]; exact HO2.out, HB2.out⟩
  | false =>
    go_enter Try.func49, Try.ntmps49
    go_wp2_with (first | (go_at_call 13; refine HIS.out.mono ?_; rintro e w2 ⟨rfl, b2⟩; have HB2 := Lib.hid b2; clear b2) | (go_at_call 51; refine (HCL.out _ (HV.out.now HB2.out)).mono ?_; rintro e w3 ⟨v3, rfl, o3, b3⟩; obtain ⟨a3, c3, rfl⟩ := ownV_slice o3; have HB3 := Lib.hid (HB2.out.trans (b3.mono HB2.out.size)); have HO3 := Lib.hid (own_wideV o3 (Nat.le_trans hb HB2.out.size)); clear b3 o3))
    go_ret2
    exact ⟨_, rfl, by rw [HR.out, if_neg (by simp)]; exact HO3.out, HB3.out⟩
end Go.Proofs.Ytcpojeiciaghmaa
