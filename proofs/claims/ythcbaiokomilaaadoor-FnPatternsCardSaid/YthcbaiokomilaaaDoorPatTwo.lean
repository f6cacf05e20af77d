/-
  The model's contracts of WordsFitting, MeetPatterns, LettersAt.
-/
import Derived.Test.YthcbaiokomilaaaDoorPat
import Derived.Test.YthcbaiokomilaaaDoorWordSpec
import Derived.Test.YthcbaiokomilaaaDoorStrs
import Derived.BigQuiet
namespace Go.Proofs.YthcbaiokomilaaaDoor
open Go.RowKit

theorem one_srcP (W : World) (v : Value) (t : TypeId) : ∀ j, j < 1 * 1 → ∃ b off, (some ⟨W.heap.size, 0, none⟩ : Option Addr) = some ⟨b, off, none⟩ ∧ (W.alloc (.cells #[v] t)).cell? ⟨b, off + j, none⟩ = [v][j]? := fun j hj => by
  obtain rfl : j = 0 := by omega
  exact ⟨W.heap.size, 0, rfl, by rw [World.cell?_alloc_mark]; rfl⟩
/-- What WordsFitting answers. -/
def fitW (l : List ByteArray) (p : ByteArray) : List ByteArray := l.filter (fitsP p)
theorem fitW_next (l : List ByteArray) (p : ByteArray) (k : Nat) (h : k < l.length) : fitW (l.take (k + 1)) p = fitW (l.take k) p ++ if fitsP p (l.getD k ⟨#[]⟩) = true then [l.getD k ⟨#[]⟩] else [] := by
  unfold fitW
  rw [List.take_succ_eq_append_getElem h, List.filter_append, List.getD_eq_getElem?_getD, List.getElem?_eq_getElem h, Option.getD_some]
  congr 1
  simp [List.filter_cons]
theorem fitW_length (l : List ByteArray) (p : ByteArray) : (fitW l p).length ≤ l.length := List.length_filter_le _ _

set_option maxHeartbeats 1600000 in
theorem swf_any (l : List ByteArray) (p : ByteArray) (hl : l.length ≤ 16777216) (v : Value) (w : World) (hv : ReadsS w.heap.size w v l) :
    Calls Tryd.prog 25 #[v, .string p] w fun e w' => ∃ v', e = .returned v' ∧ w'.ownsRow w.heap.size 9 1 v' (fitW l p).length ((fitW l p).map Value.string) ∧ Below w.heap.size w w' := by
  obtain ⟨i0, hi, hz0, hz1, hz2⟩ := info_parts infoStr
  obtain ⟨-, a0, cap, rfl, -, hc⟩ := hv.cells
  have HC := Lib.hid hc
  clear hc hv
  go_enter Tryd.func25, Tryd.ntmps25
  go_wp2
  go_loopw [5, 6] (fun o i wr => ∃ k : Nat, k ≤ l.length ∧ i = .int .i64 k ∧ Hid (wr.ownsRow w.heap.size 9 1 o (fitW (l.take k) p).length ((fitW (l.take k) p).map Value.string)) ∧ Below w.heap.size w wr) (fun _ i _ => l.length - (intOf i).toNat)
  case atStart => exact ⟨0, Nat.zero_le _, rfl, Lib.hid (own_empty w 9), (Below.refl _ _).alloc (Nat.le_refl _) _⟩
  case round =>
    obtain ⟨k, hk, rfl, HO, hbl⟩ := hrel
    by_cases hlt : k < l.length
    · obtain ⟨b, off, rfl, hb, q0⟩ := HC.out k hlt
      have HNX := Lib.hid (fitW_next l p k hlt)
      have hlen := fitW_length (l.take k) p
      rw [List.length_take] at hlen
      obtain ⟨x, hx⟩ : ∃ x, x = l.getD k ⟨#[]⟩ := ⟨_, rfl⟩
      rw [← hx] at q0 HNX
      obtain ⟨q, hq⟩ : ∃ q, q = fitsP p x := ⟨_, rfl⟩
      have HFT := Lib.hid (fun w => sfits_any p x w)
      rw [← hq] at HFT HNX
      have c0 := (hbl.cell (p := ⟨b, off + k, none⟩) hb).trans q0
      have HC0 := Lib.hid q0
      obtain ⟨n, hn⟩ : ∃ n, n = (fitW (l.take k) p).length := ⟨_, rfl⟩
      obtain ⟨L, hL⟩ : ∃ L, L = fitW (l.take k) p := ⟨_, rfl⟩
      rw [← hn] at hlen
      rw [← hn, ← hL] at HO
      rw [← hL] at HNX
      have HN := Lib.hid (hn.trans (by rw [← hL]) : n = L.length)
      clear q0 hx hq hn hL
      cases q with
      | true =>
        go_wp2_with (first | (go_at_call 23; refine (HFT.out _).mono ?_; rintro e w2 ⟨rfl, b2⟩; have HB2 := Lib.hid (hbl.trans (b2.mono hbl.size)); have HO2 := Lib.hid (ownV_later HO.out b2); have d0 := (HB2.out.cell (p := ⟨b, off + k, none⟩) hb).trans HC0.out; clear b2) | (at_builtin; refine appendV_reads _ rfl _ _ 28 rfl w.heap.size 9 i0 (.string ⟨#[]⟩) 1 16 Tryd.underlying28 hi hz0 hz1 hz2 rfl (by decide) _ _ _ rfl (HO2.out.alloc _) (some ⟨w2.heap.size, 0, none⟩) 1 1 [.string x] rfl rfl (by simp [Value.oneCell']) (fun e => by cases e) (one_srcP w2 _ _) (by omega) (by omega) (le_alloc HB2.out.size _) ?_; intro v4 w4 hown hgrow))
        have HB4 := Lib.hid (below_own (HB2.out.alloc HB2.out.size _) hgrow (HO2.out.alloc _) (Nat.le_refl _) (le_alloc HB2.out.size _))
        have HO4 : Hid (w4.ownsRow w.heap.size 9 1 v4 (fitW (l.take (k + 1)) p).length ((fitW (l.take (k + 1)) p).map Value.string)) := Lib.hid (by
          rw [HNX.out, if_pos (by trivial), List.length_append, List.map_append, ← HN.out]
          exact hown)
        clear hown hgrow
        go_roundw
        case rel => exact ⟨k + 1, by omega, by go_num, HO4, HB4.out⟩
        case measure => simp [intOf]; omega
      | false =>
        go_wp2_with (go_at_call 23; refine (HFT.out _).mono ?_; rintro e w2 ⟨rfl, b2⟩; have HB2 := Lib.hid (hbl.trans (b2.mono hbl.size)); have HO2 := Lib.hid (ownV_later HO.out b2); clear b2)
        have HO4 : Hid (w2.ownsRow w.heap.size 9 1 u5 (fitW (l.take (k + 1)) p).length ((fitW (l.take (k + 1)) p).map Value.string)) := Lib.hid (by
          rw [HNX.out, if_neg (by simp), List.append_nil, ← HN.out]
          exact HO2.out)
        go_roundw
        case rel => exact ⟨k + 1, by omega, by go_num, HO4, HB2.out⟩
        case measure => simp [intOf]; omega
    · have HF : Hid (wr.ownsRow w.heap.size 9 1 u5 (fitW l p).length ((fitW l p).map Value.string)) := Lib.hid (by
        have h9 := HO.out
        rw [List.take_of_length_le (by omega)] at h9
        exact h9)
      go_wp2
      go_ret
      exact ⟨_, rfl, HF.out, hbl⟩

/-- Two signs that meet. -/
def okM (a b : UInt8) : Prop := a = 63 ∨ b = 63 ∨ a = b
instance (a b : UInt8) : Decidable (okM a b) := inferInstanceAs (Decidable (_ ∨ _))
def meetB (a b : UInt8) : UInt8 := if a = 63 then b else a
def meetL (p q : ByteArray) (k : Nat) : List UInt8 := (List.range k).map fun i => meetB (p.data.toList.getD i 0) (q.data.toList.getD i 0)
theorem meetL_next (p q : ByteArray) (k : Nat) : meetL p q (k + 1) = meetL p q k ++ [meetB (p.data.toList.getD k 0) (q.data.toList.getD k 0)] := by
  unfold meetL
  rw [List.range_succ, List.map_append]
  rfl
theorem meetL_length (p q : ByteArray) (k : Nat) : (meetL p q k).length = k := by simp [meetL]
def meetOk (p q : ByteArray) : Bool := isP p && isP q && decide (p.size = q.size ∧ ∀ k, k < p.size → okM (p.data.toList.getD k 0) (q.data.toList.getD k 0))
/-- What MeetPatterns answers. -/
def meetP (p q : ByteArray) : ByteArray × Bool := if meetOk p q = true then (⟨(meetL p q p.size).toArray⟩, true) else (⟨#[]⟩, false)
theorem byte63 {b : UInt8} (h : b ≠ 63) : b.toNat ≠ 63 := fun e => h (UInt8.toNat_inj.1 (by show b.toNat = 63; exact e))

set_option maxHeartbeats 1600000 in
theorem smeet_any (p q : ByteArray) (w : World) :
    Calls Tryd.prog 30 #[.string p, .string q] w fun e w' => e = .returned (.tuple #[.string (meetP p q).1, .bool (meetP p q).2]) ∧ Below w.heap.size w w' := by
  obtain ⟨a, ha⟩ : ∃ a, a = isP p := ⟨_, rfl⟩
  obtain ⟨b, hb⟩ : ∃ b, b = isP q := ⟨_, rfl⟩
  have HA := Lib.hid (sip_same p)
  have HB := Lib.hid (sip_same q)
  rw [← ha] at HA
  rw [← hb] at HB
  have HE : Hid (meetOk p q = (a && b && decide (p.size = q.size ∧ ∀ k, k < p.size → okM (p.data.toList.getD k 0) (q.data.toList.getD k 0)))) := Lib.hid (by rw [ha, hb]; rfl)
  have hp8 : a = true → p.size ≤ 8 := fun h => by rw [ha] at h; exact (isP_size h).2
  have HNO : Hid (meetOk p q = false → meetP p q = (⟨#[]⟩, false)) := Lib.hid (fun h => by unfold meetP; rw [h]; rfl)
  clear ha hb
  cases a with
  | false =>
    have HF : Hid (meetP p q = (⟨#[]⟩, false)) := Lib.hid (HNO.out (by rw [HE.out]; rfl))
    clear hp8
    go_enter Tryd.func30, Tryd.ntmps30
    go_wp2_with (go_at_call_of 22 (Value.string p); refine (HA.out _).mono ?_; rintro e w1 ⟨rfl, rfl⟩)
    go_ret2
    exact ⟨by rw [HF.out]; rfl, Below.refl _ _⟩
  | true =>
    have hp := hp8 rfl
    clear hp8
    cases b with
    | false =>
      have HF : Hid (meetP p q = (⟨#[]⟩, false)) := Lib.hid (HNO.out (by rw [HE.out]; rfl))
      go_enter Tryd.func30, Tryd.ntmps30
      have FL := Lib.hid trivial
      go_wp2_with (first | (go_at_call 22; have FG := FL; refine (HA.out _).mono ?_; rintro e w1 ⟨rfl, rfl⟩; clear FL FG) | (go_at_call 22; refine (HB.out _).mono ?_; rintro e w1 ⟨rfl, rfl⟩))
      go_ret2
      exact ⟨by rw [HF.out]; rfl, Below.refl _ _⟩
    | true =>
      by_cases hsz : p.size = q.size
      · have hn : ((p.size : Int) != q.size) = false := by simp; omega
        have HSZ := Lib.hid hsz
        have hps : q.size ≤ 8 := by omega
        clear hsz
        go_enter Tryd.func30, Tryd.ntmps30
        have FL := Lib.hid trivial
        go_wp2_with (first | (go_at_call 22; have FG := FL; refine (HA.out _).mono ?_; rintro e w1 ⟨rfl, rfl⟩; clear FL FG) | (go_at_call 22; refine (HB.out _).mono ?_; rintro e w1 ⟨rfl, rfl⟩))
        go_loopw [6, 7] (fun o i wr => ∃ (k : Nat) (r : ByteArray), k ≤ p.size ∧ i = .int .i64 k ∧ o = .string r ∧ Hid (r.data.toList = meetL p q k) ∧ r.size ≤ 8 ∧ Hid (∀ j, j < k → okM (p.data.toList.getD j 0) (q.data.toList.getD j 0)) ∧ Below w.heap.size w wr) (fun _ i _ => p.size - (intOf i).toNat)
        case atStart => exact ⟨0, ⟨#[]⟩, Nat.zero_le _, rfl, rfl, Lib.hid rfl, by decide, Lib.hid (by omega), Below.refl _ _⟩
        case round =>
          obtain ⟨k, r, hk, rfl, rfl, HR, hr, HK, hbl⟩ := hrel
          by_cases hlt : k < p.size
          · have hlt2 : k < q.size := by have := HSZ.out; omega
            have hg1 := getD_byte p k hlt
            have hg2 := getD_byte q k hlt2
            have HNX := Lib.hid (meetL_next p q k)
            rw [hg1, hg2] at HNX
            by_cases hf : okM p[k] q[k]
            · have HK2 : Hid (∀ j, j < k + 1 → okM (p.data.toList.getD j 0) (q.data.toList.getD j 0)) := Lib.hid (fun j hj => by
                rcases Nat.lt_or_ge j k with h | h
                · exact HK.out j h
                · obtain rfl : j = k := by omega
                  rw [hg1, hg2]; exact hf)
              have hsize : ∀ t : ByteArray, t.data.toList = meetL p q (k + 1) → t.size ≤ 8 := fun t ht => by rw [← size_list, ht, meetL_length]; omega
              clear hg1 hg2
              by_cases h63 : p[k] = 63
              · have h1 : ((p[k].toNat : Int) != 63) = false := by simp [h63]
                have HR2 : Hid ((r ++ q.extract k (k + 1)).data.toList = meetL p q (k + 1)) := Lib.hid (by rw [snoc_list q r k hlt2, HR.out, HNX.out]; unfold meetB; rw [if_pos h63])
                have hr2 := hsize _ HR2.out
                clear h63 hf hsize
                go_wp2
                go_quiet (fail)
                go_wp2
                go_roundw
                case rel => exact ⟨k + 1, _, by omega, by go_num, rfl, HR2, hr2, HK2, below_drewN hbl _⟩
                case measure => simp [intOf]; omega
              · have h1 : ((p[k].toNat : Int) != 63) = true := by have := byte63 h63; simp; omega
                have HR2 : Hid ((r ++ p.extract k (k + 1)).data.toList = meetL p q (k + 1)) := Lib.hid (by rw [snoc_list p r k hlt, HR.out, HNX.out]; unfold meetB; rw [if_neg h63])
                have hr2 := hsize _ HR2.out
                by_cases h63b : q[k] = 63
                · have h2 : ((q[k].toNat : Int) != 63) = false := by simp [h63b]
                  clear h63 h63b hf hsize
                  go_wp2
                  go_quiet (fail)
                  go_wp2
                  go_roundw
                  case rel => exact ⟨k + 1, _, by omega, by go_num, rfl, HR2, hr2, HK2, below_drewN hbl _⟩
                  case measure => simp [intOf]; omega
                · have h2 : ((q[k].toNat : Int) != 63) = true := by have := byte63 h63b; simp; omega
                  have h3 : ((p[k].toNat : Int) != (q[k].toNat : Int)) = false := by simp; rw [(hf.resolve_left h63).resolve_left h63b]
                  clear h63 h63b hf hsize
                  go_wp2
                  go_quiet (fail)
                  go_wp2
                  go_roundw
                  case rel => exact ⟨k + 1, _, by omega, by go_num, rfl, HR2, hr2, HK2, below_drewN hbl _⟩
                  case measure => simp [intOf]; omega
            · have HF : Hid (meetP p q = (⟨#[]⟩, false)) := Lib.hid (HNO.out (by rw [HE.out]; simp only [Bool.true_and]; exact decide_eq_false (fun h => hf (by have := h.2 k hlt; rwa [hg1, hg2] at this))))
              unfold okM at hf
              clear hg1 hg2
              have h1 : ((p[k].toNat : Int) != 63) = true := by have := byte63 (fun e => hf (Or.inl e)); simp; omega
              have h2 : ((q[k].toNat : Int) != 63) = true := by have := byte63 (fun e => hf (Or.inr (Or.inl e))); simp; omega
              have h3 : ((p[k].toNat : Int) != (q[k].toNat : Int)) = true := by simp; intro h; exact hf (Or.inr (Or.inr (UInt8.toNat_inj.1 (by omega))))
              clear hf
              go_wp2
              go_quiet (fail)
              go_wp2
              go_ret2
              exact ⟨by rw [HF.out]; rfl, below_drewN hbl _⟩
          · have HT : Hid (meetP p q = (r, true)) := Lib.hid (by
              unfold meetP
              rw [HE.out]
              simp only [Bool.true_and]
              rw [decide_eq_true (show p.size = q.size ∧ ∀ j, j < p.size → okM (p.data.toList.getD j 0) (q.data.toList.getD j 0) from ⟨HSZ.out, fun j hj => HK.out j (by omega)⟩), if_pos rfl]
              rw [show p.size = k by omega, ← HR.out])
            go_wp2
            go_ret2
            exact ⟨by rw [HT.out]; rfl, hbl⟩
      · have hn : ((p.size : Int) != q.size) = true := by simp; omega
        have HF : Hid (meetP p q = (⟨#[]⟩, false)) := Lib.hid (HNO.out (by rw [HE.out]; simp only [Bool.true_and]; exact decide_eq_false (fun h => hsz h.1)))
        clear hsz
        go_enter Tryd.func30, Tryd.ntmps30
        have FL := Lib.hid trivial
        go_wp2_with (first | (go_at_call 22; have FG := FL; refine (HA.out _).mono ?_; rintro e w1 ⟨rfl, rfl⟩; clear FL FG) | (go_at_call 22; refine (HB.out _).mono ?_; rintro e w1 ⟨rfl, rfl⟩))
        go_ret2
        exact ⟨by rw [HF.out]; rfl, Below.refl _ _⟩
end Go.Proofs.YthcbaiokomilaaaDoor
