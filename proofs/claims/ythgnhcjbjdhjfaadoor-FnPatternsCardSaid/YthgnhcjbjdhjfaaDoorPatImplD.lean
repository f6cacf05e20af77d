/-
  The program's contracts of chapter 6: WordsFitting, LettersAt; and all of them in the form that the laws' walks ask.
-/
import Derived.Test.YthgnhcjbjdhjfaaDoorPatImplC
import Derived.Test.YthgnhcjbjdhjfaaDoorKit

namespace Go.Proofs.YthgnhcjbjdhjfaaDoor
open Go.RowKit

set_option maxHeartbeats 1600000 in
theorem iwf_any (l : List ByteArray) (p : ByteArray) (hl : l.length ≤ 16777216) (v : Value) (w : World) (hm : ML w) (hps : p.size ≤ 1048576) (hzs : ∀ z ∈ l, z.size ≤ 1048576) (hv : ReadsS w.heap.size w v l) :
    Calls Tryd.prog 13 #[v, .string p] w fun e w' => ∃ v', e = .returned v' ∧ w'.ownsRow w.heap.size 9 1 v' (fitW l p).length ((fitW l p).map Value.string) ∧ Below w.heap.size w w' := by
  obtain ⟨i0, hi, hz0, hz1, hz2⟩ := info_parts infoStr
  obtain ⟨-, a0, cap, rfl, -, hc⟩ := hv.cells
  have HC := Lib.hid hc
  have HM := Lib.hid hm
  have HZS := Lib.hid hzs
  clear hc hv hm hzs
  go_enter Tryd.func13, Tryd.ntmps13
  go_wp2
  go_loopw [5, 11] (fun o i wr => ∃ k : Nat, k ≤ l.length ∧ i = .int .i64 k ∧ Hid (wr.ownsRow w.heap.size 9 1 o (fitW (l.take k) p).length ((fitW (l.take k) p).map Value.string)) ∧ Below w.heap.size w wr) (fun _ i _ => l.length - (intOf i).toNat)
  case atStart => exact ⟨0, Nat.zero_le _, rfl, Lib.hid (own_empty w 9), (Below.refl _ _).alloc (Nat.le_refl _) _⟩
  case round =>
    obtain ⟨k, hk, rfl, HO, hbl⟩ := hrel
    by_cases hlt : k < l.length
    · obtain ⟨b, off, rfl, hb, q0⟩ := HC.out k hlt
      have HNX := Lib.hid (fitW_next l p k hlt)
      have hlen := fitW_length (l.take k) p
      rw [List.length_take] at hlen
      have hxs := HZS.out _ (getD_mem l k ⟨#[]⟩ hlt)
      obtain ⟨x, hx⟩ : ∃ x, x = l.getD k ⟨#[]⟩ := ⟨_, rfl⟩
      rw [← hx] at q0 HNX hxs
      obtain ⟨q, hq⟩ : ∃ q, q = fitsP p x := ⟨_, rfl⟩
      have HFT := Lib.hid (fun w (h : ML w) => ifits_any p x w h hps hxs)
      rw [← hq] at HFT HNX
      have c0 := (hbl.cell (p := ⟨b, off + k, none⟩) hb).trans q0
      have HC0 := Lib.hid q0
      obtain ⟨n, hn⟩ : ∃ n, n = (fitW (l.take k) p).length := ⟨_, rfl⟩
      obtain ⟨L, hL⟩ : ∃ L, L = fitW (l.take k) p := ⟨_, rfl⟩
      rw [← hn] at hlen
      rw [← hn, ← hL] at HO
      rw [← hL] at HNX
      have HN := Lib.hid (hn.trans (by rw [← hL]) : n = L.length)
      clear q0 hx hq hn hL
      cases q with
      | true =>
        go_wp2_with (first | (go_at_call 11; refine (HFT.out _ (HM.out.later hbl)).mono ?_; rintro e w2 ⟨rfl, b2⟩; have HB2 := Lib.hid (hbl.trans (b2.mono hbl.size)); have HO2 := Lib.hid (ownV_later HO.out b2); clear b2) | (at_builtin; refine appendV_reads _ rfl _ _ 28 rfl w.heap.size 9 i0 (.string ⟨#[]⟩) 1 16 Tryd.underlying28 hi hz0 hz1 hz2 rfl (by decide) _ _ _ rfl (HO2.out.alloc _) (some ⟨w2.heap.size, 0, none⟩) 1 1 [.string x] rfl rfl (by simp [Value.oneCell']) (fun e => by cases e) (one_srcP w2 _ _) (by omega) (by omega) (le_alloc HB2.out.size _) ?_; intro v4 w4 hown hgrow))
        have HB4 := Lib.hid (below_own (HB2.out.alloc HB2.out.size _) hgrow (HO2.out.alloc _) (Nat.le_refl _) (le_alloc HB2.out.size _))
        have HO4 : Hid (w4.ownsRow w.heap.size 9 1 v4 (fitW (l.take (k + 1)) p).length ((fitW (l.take (k + 1)) p).map Value.string)) := Lib.hid (by
          rw [HNX.out, if_pos (by trivial), List.length_append, List.map_append, ← HN.out]
          exact hown)
        clear hown hgrow
        go_roundw
        case rel => exact ⟨k + 1, by omega, by go_num, HO4, HB4.out⟩
        case measure => simp [intOf]; omega
      | false =>
        go_wp2_with (go_at_call 11; refine (HFT.out _ (HM.out.later hbl)).mono ?_; rintro e w2 ⟨rfl, b2⟩; have HB2 := Lib.hid (hbl.trans (b2.mono hbl.size)); have HO2 := Lib.hid (ownV_later HO.out b2); clear b2)
        have HO4 : Hid (w2.ownsRow w.heap.size 9 1 u5 (fitW (l.take (k + 1)) p).length ((fitW (l.take (k + 1)) p).map Value.string)) := Lib.hid (by
          rw [HNX.out, if_neg (by simp), List.append_nil, ← HN.out]
          exact HO2.out)
        go_roundw
        case rel => exact ⟨k + 1, by omega, by go_num, HO4, HB2.out⟩
        case measure => simp [intOf]; omega
    · have HF : Hid (wr.ownsRow w.heap.size 9 1 u5 (fitW l p).length ((fitW l p).map Value.string)) := Lib.hid (by
        have h9 := HO.out
        rw [List.take_of_length_le (by omega)] at h9
        exact h9)
      go_wp2
      go_ret
      exact ⟨_, rfl, HF.out, hbl⟩

theorem withB_any (S k : Nat) (hS : S < 67108864) (hk : k < 26) (w : World) :
    Calls Tryd.prog 77 #[.int .u64 (S : Int), .int .u8 (k : Int)] w fun e w' => e = .returned (.int .u64 ((S ||| 2 ^ k : Nat) : Int)) ∧ w = w' := by
  have h2 : 2 ^ k < 18446744073709551616 := Nat.lt_of_le_of_lt (Nat.pow_le_pow_right (by omega) (Nat.le_of_lt hk)) (by decide)
  have hw : IntKind.u64.wrap (2 ^ k) = ((2 ^ k : Nat) : Int) := by
    rw [show ((2 : Int) ^ k) = ((2 ^ k : Nat) : Int) by simp, IntKind.wrap_u64]
    generalize 2 ^ k = X at h2 ⊢
    omega
  rw [← bits_or_u64_nat S (2 ^ k) (by omega) h2, ← hw]
  clear hw h2
  go_enter Tryd.func77, Tryd.ntmps77
  go_wp2
  go_ret
  exact ⟨rfl, rfl⟩

/-- The letters found in the first k words, as a set of bits. -/
def foF (l : List ByteArray) (t : Int) (c : Nat) : Bool := decide (0 ≤ t) && hasAt l t.toNat (97 + c)
def foS (l : List ByteArray) (t : Int) (k : Nat) : Nat := setTo (foF (l.take k) t) 26
theorem foS_lt (l : List ByteArray) (t : Int) (k : Nat) : foS l t k < 67108864 := setTo_lt _ 26
theorem foS_zero (l : List ByteArray) (t : Int) : foS l t 0 = 0 := by
  unfold foS
  rw [setTo_congr (g := fun _ => false) (fun i _ => by unfold foF hasAt; simp)]
  rfl
theorem foS_no (l : List ByteArray) (t : Int) (k : Nat) (h : k < l.length) (x : ByteArray) (hx : x = l.getD k ⟨#[]⟩) (hn : ¬ (isW x = true ∧ 0 ≤ t ∧ t ≤ (x.size : Int) - 1)) : foS l t (k + 1) = foS l t k := by
  unfold foS
  refine setTo_congr fun c _ => ?_
  unfold foF
  rw [hasAt_next l _ _ k h, ← hx]
  by_cases h0 : 0 ≤ t
  · have h1 : hasAt1 t.toNat (97 + c) x = false := by
      unfold hasAt1
      cases hw : isW x
      · rfl
      · rw [decide_eq_false (show ¬ t.toNat < x.size from fun h3 => hn ⟨hw, h0, by omega⟩)]; rfl
    rw [h1, Bool.or_false]
  · rw [decide_eq_false h0]; rfl
theorem foS_yes (l : List ByteArray) (n : Nat) (k : Nat) (h : k < l.length) (x : ByteArray) (hx : x = l.getD k ⟨#[]⟩) (hw : isW x = true) (hn : n < x.size) (c : Nat) (hc : x[n].toNat = 97 + c) (hc26 : c < 26) : foS l n k ||| 2 ^ c = foS l n (k + 1) := by
  unfold foS
  refine setTo_or hc26 fun i _ => ?_
  unfold foF
  rw [hasAt_next l _ _ k h, ← hx, decide_eq_true (show (0 : Int) ≤ n by omega), Bool.true_and, Bool.true_and]
  congr 1
  unfold hasAt1
  rw [hw, Int.toNat_natCast, decide_eq_true hn, getD_byte x n hn, hc]
  by_cases e : i = c
  · subst e; simp
  · rw [decide_eq_false (show ¬ 97 + c = 97 + i by omega), decide_eq_false e]; rfl
theorem letters_set (l : List ByteArray) (t : Int) : (⟨((itemsTo (foS l t l.length) 64).map fun c => UInt8.ofNat (97 + c)).toArray⟩ : ByteArray) = lettersA l t := by
  unfold foS lettersA lettersL
  rw [itemsTo_set _ _ _ (by omega), List.take_length]
  by_cases h0 : 0 ≤ t
  · rw [if_pos h0]
    congr 3
    refine List.filter_congr fun c _ => ?_
    unfold foF
    rw [decide_eq_true h0]; rfl
  · rw [if_neg h0, List.filter_eq_nil_iff.2 (fun c _ => by unfold foF; rw [decide_eq_false h0]; simp)]
    rfl
/-- The letters of a list of numbers. -/
def ltrI (l : List Nat) : List Int := l.map fun (k : Nat) => (97 + k : Int)
theorem ltrI_length (l : List Nat) : (ltrI l).length = l.length := by simp [ltrI]
theorem ltrI_str (l : List Nat) (h : ∀ k ∈ l, k < 26) : strOfNums (ltrI l) = ⟨(l.map fun c => UInt8.ofNat (97 + c)).toArray⟩ := by
  have h2 : ltrI l = numsL (l.map fun c => UInt8.ofNat (97 + c)) := by
    unfold ltrI numsL
    rw [List.map_map]
    refine List.map_congr_left fun k hk => ?_
    have := h k hk
    show ((97 : Int) + k) = (((UInt8.ofNat (97 + k)).toNat : Nat) : Int)
    rw [UInt8.toNat_ofNat']
    omega
  rw [h2, str_nums]
theorem i_IsPattern (x : ByteArray) (w : World) (hx : x.size ≤ 1048576) (hm : ML w) :
    Calls Tryd.prog 16 #[.string x] w fun e w' => ∃ r, r = isP x ∧ e = .returned (.bool r) ∧ Below w.heap.size w w' :=
  (iip_any x w hm hx).mono fun _ _ ⟨h1, h2⟩ => ⟨_, rfl, h1, h2⟩
theorem i_FitsPattern (x y : ByteArray) (w : World) (hx : x.size ≤ 1048576) (hy : y.size ≤ 1048576) (hm : ML w) :
    Calls Tryd.prog 11 #[.string x, .string y] w fun e w' => ∃ r, r = fitsP x y ∧ e = .returned (.bool r) ∧ Below w.heap.size w w' :=
  (ifits_any x y w hm hx hy).mono fun _ _ ⟨h1, h2⟩ => ⟨_, rfl, h1, h2⟩
theorem i_WordsFitting (u : Value) (ws : List ByteArray) (x : ByteArray) (w : World) (hR' : ReadsS w.heap.size w u ws) (hl' : ws.length ≤ 1048576) (hS' : ∀ z ∈ ws, z.size ≤ 1048576) (hx : x.size ≤ 1048576) (hm : ML w) :
    Calls Tryd.prog 13 #[u, .string x] w fun e w' => ∃ L v', L = fitW ws x ∧ L.length ≤ 16777216 ∧ e = .returned v' ∧ w'.ownsRow w.heap.size 9 1 v' L.length (L.map Value.string) ∧ Below w.heap.size w w' :=
  (iwf_any ws x (by omega) u w hm hx hS' hR').mono fun _ _ ⟨v', h1, h2, h3⟩ => ⟨_, v', rfl, Nat.le_trans (fitW_length ws x) (by omega), h1, h2, h3⟩
theorem i_MeetPatterns (x y : ByteArray) (w : World) (hx : x.size ≤ 1048576) (hy : y.size ≤ 1048576) (hm : ML w) (hd : DB w) :
    Calls Tryd.prog 9 #[.string x, .string y] w fun e w' => ∃ r b, (r = (meetP x y).1 ∧ b = (meetP x y).2) ∧ e = .returned (.tuple #[.string r, .bool b]) ∧ Below w.heap.size w w' :=
  (imeet_any x y w hm hd hx hy).mono fun _ _ ⟨h1, h2⟩ => ⟨_, _, ⟨rfl, rfl⟩, h1, h2⟩
theorem i_CountOpen (x : ByteArray) (w : World) (hx : x.size ≤ 1048576) (hm : ML w) :
    Calls Tryd.prog 15 #[.string x] w fun e w' => ∃ r, r = openN x ∧ e = .returned (.int .i64 r) ∧ Below w.heap.size w w' :=
  (ico_any x w hm hx).mono fun _ _ ⟨h1, h2⟩ => ⟨_, rfl, h1, h2⟩
end Go.Proofs.YthgnhcjbjdhjfaaDoor
