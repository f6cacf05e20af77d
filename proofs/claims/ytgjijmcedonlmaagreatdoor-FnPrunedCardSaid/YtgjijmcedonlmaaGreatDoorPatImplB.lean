/-
  The model's contracts of chapter 6 in the form that the exact laws' walks ask.
  The program's contracts of chapter 6: the sets of bits, IsPattern, openPlaces, differingPlaces, canMeet, FitsPattern, CountOpen.
  The items of a set of bits (of ints, of bytes): the library's TrailingZeros64 over its table.
  The program's contracts of chapter 6: the numbers of a set of bits, CountOpen, MeetPatterns.
-/
import Derived.Test.YtgjijmcedonlmaaGreatDoorPatB
import Derived.Test.YtgjijmcedonlmaaGreatDoorWordI
import Derived.Test.YtgjijmcedonlmaaGreatDoorShelf
import Derived.Test.YtgjijmcedonlmaaGreatDoorKit
import Derived.BigQuiet
import Derived.Lib.SmallJoins
namespace Go.Proofs.YtgjijmcedonlmaaGreatDoor
open Go.RowKit

theorem u_IsPattern {x : ByteArray} {r r' : Bool} (h : r = isP x) (h' : r' = isP x) : r = r' := h.trans h'.symm
theorem s_IsPattern (x : ByteArray) (w : World) (_hx : x.size ≤ 1048576) :
    Calls Tryz.prog 117 #[.string x] w fun e w' => ∃ r, r = isP x ∧ e = .returned (.bool r) ∧ Below w.heap.size w w' :=
  (sip_same x w).mono fun _ _ ⟨h1, h2⟩ => ⟨_, rfl, h1, h2 ▸ Below.refl _ _⟩
theorem u_FitsPattern {x y : ByteArray} {r r' : Bool} (h : r = fitsP x y) (h' : r' = fitsP x y) : r = r' := h.trans h'.symm
theorem s_FitsPattern (x y : ByteArray) (w : World) (_hx : x.size ≤ 1048576) (_hy : y.size ≤ 1048576) :
    Calls Tryz.prog 106 #[.string x, .string y] w fun e w' => ∃ r, r = fitsP x y ∧ e = .returned (.bool r) ∧ Below w.heap.size w w' :=
  (sfits_any x y w).mono fun _ _ ⟨h1, h2⟩ => ⟨_, rfl, h1, h2⟩
theorem u_WordsFitting {ws : List ByteArray} {x : ByteArray} {L L' : List ByteArray} (h : L = fitW ws x) (h' : L' = fitW ws x) : L = L' := h.trans h'.symm
theorem s_WordsFitting (u : Value) (ws : List ByteArray) (x : ByteArray) (w : World) (hR' : ReadsS w.heap.size w u ws) (hl' : ws.length ≤ 1048576) (_hS' : ∀ z ∈ ws, z.size ≤ 1048576) (_hx : x.size ≤ 1048576) :
    Calls Tryz.prog 78 #[u, .string x] w fun e w' => ∃ L v', L = fitW ws x ∧ L.length ≤ 16777216 ∧ e = .returned v' ∧ w'.ownsRow w.heap.size 9 1 v' L.length (L.map Value.string) ∧ Below w.heap.size w w' :=
  (swf_any ws x (by omega) u w hR').mono fun _ _ ⟨v', h1, h2, h3⟩ => ⟨_, v', rfl, Nat.le_trans (fitW_length ws x) (by omega), h1, h2, h3⟩
theorem u_MeetPatterns {x y : ByteArray} {r r' : ByteArray} {b b' : Bool} (h : r = (meetP x y).1 ∧ b = (meetP x y).2) (h' : r' = (meetP x y).1 ∧ b' = (meetP x y).2) : r = r' ∧ b = b' := ⟨h.1.trans h'.1.symm, h.2.trans h'.2.symm⟩
theorem u_CountOpen {x : ByteArray} {r r' : Int} (h : r = openN x) (h' : r' = openN x) : r = r' := h.trans h'.symm
theorem u_LettersAt {ws : List ByteArray} {t : Int} {r r' : ByteArray} (h : r = lettersA ws t) (h' : r' = lettersA ws t) : r = r' := h.trans h'.symm
end Go.Proofs.YtgjijmcedonlmaaGreatDoor
namespace Go.Proofs.YtgjijmcedonlmaaGreatDoor
open Go.RowKit

/-- The library's variable MaxLen holds some integer. -/
def ML (w : World) : Prop := ∃ m, w.cell? ⟨0, 0, none⟩ = some (.int .i64 m)
theorem ML.lt {w : World} (h : ML w) : 0 < w.heap.size := World.block_lt_of_cell? _ _ h.choose_spec
theorem ML.later {w w' : World} (h : ML w) (b : Below w.heap.size w w') : ML w' := by
  obtain ⟨m, hm⟩ := h
  exact ⟨m, (b.cell (p := ⟨0, 0, none⟩) (World.block_lt_of_cell? _ _ hm)).trans hm⟩
theorem ML.drew {w : World} (h : ML w) : ML w.drew := h.later (Below.refl _ _).drew

theorem withI_any (S k : Nat) (hS : S < 256) (hk : k < 8) (w : World) :
    Calls Tryz.prog 45 #[.int .u64 (S : Int), .int .i64 (k : Int)] w fun e w' => e = .returned (.int .u64 ((S ||| 2 ^ k : Nat) : Int)) ∧ w = w' := by
  have h2 : 2 ^ k < 18446744073709551616 := Nat.lt_of_le_of_lt (Nat.pow_le_pow_right (by omega) (Nat.le_of_lt hk)) (by decide)
  have hw : IntKind.u64.wrap (2 ^ k) = ((2 ^ k : Nat) : Int) := by
    rw [show ((2 : Int) ^ k) = ((2 ^ k : Nat) : Int) by simp, IntKind.wrap_u64]
    generalize 2 ^ k = X at h2 ⊢
    omega
  rw [← bits_or_u64_nat S (2 ^ k) (by omega) h2, ← hw]
  clear hw h2
  go_enter Tryz.func45, Tryz.ntmps45
  go_wp2
  go_ret
  exact ⟨rfl, rfl⟩

theorem iip_any (s : ByteArray) (w : World) (hm : ML w) (hs : s.size ≤ 1048576) :
    Calls Tryz.prog 114 #[.string s] w fun e w' => e = .returned (.bool (isP s)) ∧ Below w.heap.size w w' := by
  obtain ⟨m, hm⟩ := hm
  have HR := Lib.hid (isW_ask s)
  have hc : Lib.countB s ⟨#[63]⟩ ≤ s.size := by
    show Lib.count s.data.toList [63] ≤ s.size
    rw [Lib.count_one, ← size_list]
    exact List.count_le_length
  have HC : Hid (s.size + Lib.countB s ⟨#[63]⟩ * (⟨#[97]⟩ : ByteArray).size ≤ 140737488355328) := Lib.hid (by show s.size + Lib.countB s ⟨#[63]⟩ * 1 ≤ _; omega)
  clear hc
  have HM := Lib.hid hm
  clear hm
  go_enter Tryz.func114, Tryz.ntmps114
  go_wp2_with (first | (go_at_call 119; refine (Tryz.strings_ReplaceAll s ⟨#[63]⟩ ⟨#[97]⟩ m _ (by omega) HM.out (by decide) HC.out).mono ?_; rintro e w1 ⟨rfl, b1⟩; have HB1 := Lib.hid b1; clear b1) | (go_at_call 53; refine (iiw_any _ _).mono ?_; rintro e w2 ⟨rfl, b2⟩; have HB2 := Lib.hid b2; clear b2))
  go_ret
  exact ⟨by rw [← HR.out]; rfl, btrans HB1.out HB2.out⟩

/-- The open places among the first k. -/
def opT (p : ByteArray) (k : Nat) : Nat := setTo (fun i => p.data.toList.getD i 0 == 63) k
theorem opT_lt (p : ByteArray) (k : Nat) (h : k ≤ 8) : opT p k < 256 := Nat.lt_of_lt_of_le (setTo_lt _ _) (Nat.pow_le_pow_right (by omega) h)
theorem opT_yes (p : ByteArray) (k : Nat) (h : p.data.toList.getD k 0 = 63) : opT p (k + 1) = opT p k ||| 2 ^ k := by
  unfold opT
  rw [setTo, if_pos (beq_iff_eq.2 h)]
theorem opT_no (p : ByteArray) (k : Nat) (h : p.data.toList.getD k 0 ≠ 63) : opT p (k + 1) = opT p k := by
  unfold opT
  rw [setTo, if_neg (fun e => h (beq_iff_eq.1 e))]
set_option maxHeartbeats 800000 in
theorem iopen_any (p : ByteArray) (h8 : p.size ≤ 8) (w : World) :
    Calls Tryz.prog 116 #[.string p] w fun e w' => e = .returned (.int .u64 ((opS p : Nat) : Int)) ∧ Below w.heap.size w w' := by
  obtain ⟨c, W1, hconv, hc1, hc2, hb1, hsz, hcell⟩ := conv_str p w (by omega)
  have HC := Lib.hid hcell
  have HB := Lib.hid hb1
  clear hcell hb1 hsz
  go_enter Tryz.func116, Tryz.ntmps116
  go_wp2
  go_loop [3, 9] (fun u i => ∃ k : Nat, k ≤ p.size ∧ i = .int .i64 k ∧ u = .int .u64 ((opT p k : Nat) : Int)) (fun _ i => p.size - (intOf i).toNat)
  case atStart => exact ⟨0, Nat.zero_le _, rfl, rfl⟩
  case round =>
    obtain ⟨k, hk, rfl, rfl⟩ := hrel
    by_cases hlt : k < p.size
    · have hc1 := HC.out k hlt
      have h255 : p[k].toNat ≤ 255 := by have := p[k].toNat_lt; omega
      obtain ⟨T, hT⟩ : ∃ T, T = opT p k := ⟨_, rfl⟩
      have hTl : T < 256 := by rw [hT]; exact opT_lt p k (by omega)
      have hk8 : k < 8 := by omega
      by_cases h63 : p[k] = 63
      · have HN : Hid (opT p (k + 1) = T ||| 2 ^ k) := Lib.hid (by rw [hT]; exact opT_yes p k ((getD_byte p k hlt).trans h63))
        have hq : ((p[k].toNat : Int) == 63) = true := by simp [h63]
        rw [← hT]
        clear h63 hT
        go_wp2_with (go_at_call 45; refine (withI_any T k hTl hk8 _).mono ?_; rintro e w1 ⟨rfl, rfl⟩; rw [← HN.out])
        go_round
        case rel => exact ⟨k + 1, by omega, by go_num, rfl⟩
        case measure => simp [intOf]; omega
      · have HN : Hid (opT p (k + 1) = T) := Lib.hid (by rw [hT]; exact opT_no p k (fun e => h63 ((getD_byte p k hlt).symm.trans e)))
        have hq : ((p[k].toNat : Int) == 63) = false := by simp; intro h; exact h63 (UInt8.toNat_inj.1 (by show p[k].toNat = 63; omega))
        rw [← hT]
        clear h63 hT
        go_wp2
        go_round
        case rel => exact ⟨k + 1, by omega, by go_num, by rw [HN.out]⟩
        case measure => simp [intOf]; omega
    · have hk' : k = p.size := by omega
      have HT : Hid (opT p k = opS p) := Lib.hid (by rw [hk']; rfl)
      clear hk'
      go_wp2
      go_ret
      exact ⟨by rw [← HT.out]; rfl, HB.out⟩

/-- The places among the first k at which two texts differ. -/
def dfT (p q : ByteArray) (k : Nat) : Nat := setTo (fun i => p.data.toList.getD i 0 != q.data.toList.getD i 0) k
theorem dfT_lt (p q : ByteArray) (k : Nat) (h : k ≤ 8) : dfT p q k < 256 := Nat.lt_of_lt_of_le (setTo_lt _ _) (Nat.pow_le_pow_right (by omega) h)
theorem dfT_yes (p q : ByteArray) (k : Nat) (h : p.data.toList.getD k 0 ≠ q.data.toList.getD k 0) : dfT p q (k + 1) = dfT p q k ||| 2 ^ k := by
  unfold dfT
  rw [setTo, if_pos (by simpa using h)]
theorem dfT_no (p q : ByteArray) (k : Nat) (h : p.data.toList.getD k 0 = q.data.toList.getD k 0) : dfT p q (k + 1) = dfT p q k := by
  unfold dfT
  rw [setTo, if_neg (by simpa using h)]
set_option maxHeartbeats 800000 in
theorem idiff_any (p q : ByteArray) (h8 : p.size ≤ 8) (hpq : p.size = q.size) (w : World) :
    Calls Tryz.prog 115 #[.string p, .string q] w fun e w' => e = .returned (.int .u64 ((dfS p q : Nat) : Int)) ∧ Below w.heap.size w w' := by
  have HPQ := Lib.hid hpq
  clear hpq
  go_enter Tryz.func115, Tryz.ntmps115
  go_wp2
  go_loopw [5, 9] (fun u i wr => ∃ k : Nat, k ≤ p.size ∧ i = .int .i64 k ∧ u = .int .u64 ((dfT p q k : Nat) : Int) ∧ Below w.heap.size w wr) (fun _ i _ => p.size - (intOf i).toNat)
  case atStart => exact ⟨0, Nat.zero_le _, rfl, rfl, Below.refl _ _⟩
  case round =>
    obtain ⟨k, hk, rfl, rfl, hbl⟩ := hrel
    by_cases hlt : k < p.size
    · have hlt2 : k < q.size := by have := HPQ.out; omega
      obtain ⟨T, hT⟩ : ∃ T, T = dfT p q k := ⟨_, rfl⟩
      have hTl : T < 256 := by rw [hT]; exact dfT_lt p q k (by omega)
      have hk8 : k < 8 := by omega
      by_cases hpq : p[k] = q[k]
      · have HN : Hid (dfT p q (k + 1) = T) := Lib.hid (by rw [hT]; exact dfT_no p q k (by rw [getD_byte p k hlt, getD_byte q k hlt2, hpq]))
        have hq : ((p[k].toNat : Int) != (q[k].toNat : Int)) = false := by simp [hpq]
        rw [← hT]
        clear hpq hT
        go_wp2
        go_quiet (fail)
        go_wp2
        go_roundw
        case rel => exact ⟨k + 1, by omega, by go_num, by rw [HN.out], below_drewN hbl _⟩
        case measure => simp [intOf]; omega
      · have HN : Hid (dfT p q (k + 1) = T ||| 2 ^ k) := Lib.hid (by rw [hT]; exact dfT_yes p q k (by rw [getD_byte p k hlt, getD_byte q k hlt2]; exact hpq))
        have hq : ((p[k].toNat : Int) != (q[k].toNat : Int)) = true := by simp; intro h; exact hpq (UInt8.toNat_inj.1 (by omega))
        rw [← hT]
        clear hpq hT
        go_wp2
        go_quiet (fail)
        go_wp2_with (go_at_call 45; refine (withI_any T k hTl hk8 _).mono ?_; rintro e w1 ⟨rfl, rfl⟩; rw [← HN.out])
        go_roundw
        case rel => exact ⟨k + 1, by omega, by go_num, rfl, below_drewN hbl _⟩
        case measure => simp [intOf]; omega
    · have hk' : k = p.size := by omega
      have HT : Hid (dfT p q k = dfS p q) := Lib.hid (by rw [hk']; rfl)
      clear hk'
      go_wp2
      go_ret
      exact ⟨by rw [← HT.out]; rfl, hbl⟩

theorem meetOk_eq (p q : ByteArray) (hp : isP p = true) (hq : isP q = true) (hs : p.size = q.size) :
    ((bits .andNot .u64 ((dfS p q : Nat) : Int) (bits .or .u64 ((opS p : Nat) : Int) ((opS q : Nat) : Int))) == 0) = meetOk p q := by
  have h1 := (isP_size hp).2
  have h2 := opS_lt p h1
  have h3 := opS_lt q (by omega)
  have h4 := dfS_lt p q h1
  have h5 : opS p ||| opS q < 2 ^ 8 := Nat.or_lt_two_pow (by omega) (by omega)
  rw [bits_or_u64_nat _ _ (by omega) (by omega), bits_andNot_u64_nat _ _ (by omega) (by omega), meet_bits p q hs h1]
  unfold meetOk
  rw [hp, hq]
  simp [hs]
set_option maxHeartbeats 1600000 in
theorem icm_any (p q : ByteArray) (w : World) (hm : ML w) (hps : p.size ≤ 1048576) (hqs : q.size ≤ 1048576) :
    Calls Tryz.prog 102 #[.string p, .string q] w fun e w' => e = .returned (.bool (meetOk p q)) ∧ Below w.heap.size w w' := by
  obtain ⟨a, ha⟩ : ∃ a, a = isP p := ⟨_, rfl⟩
  obtain ⟨b, hb⟩ : ∃ b, b = isP q := ⟨_, rfl⟩
  have HA := Lib.hid (fun w (h : ML w) => iip_any p w h hps)
  have HB := Lib.hid (fun w (h : ML w) => iip_any q w h hqs)
  rw [← ha] at HA
  rw [← hb] at HB
  have HM := Lib.hid hm
  clear hm
  cases a with
  | false =>
    have HF : Hid (meetOk p q = false) := Lib.hid (by unfold meetOk; rw [← ha]; rfl)
    clear ha hb
    go_enter Tryz.func102, Tryz.ntmps102
    go_wp2_with (go_at_call 114; refine (HA.out _ HM.out).mono ?_; rintro e w1 ⟨rfl, b1⟩; have HB1 := Lib.hid b1; clear b1)
    go_ret
    exact ⟨by rw [HF.out]; rfl, HB1.out⟩
  | true =>
    cases b with
    | false =>
      have HF : Hid (meetOk p q = false) := Lib.hid (by unfold meetOk; rw [← ha, ← hb]; rfl)
      clear ha hb
      have FL := Lib.hid trivial
      go_enter Tryz.func102, Tryz.ntmps102
      go_wp2_with (first | (go_at_call 114; have FG := FL; refine (HA.out _ HM.out).mono ?_; rintro e w1 ⟨rfl, b1⟩; have HB1 := Lib.hid b1; clear b1 FL FG) | (go_at_call 114; refine (HB.out _ (HM.out.later HB1.out)).mono ?_; rintro e w2 ⟨rfl, b2⟩; have HB2 := Lib.hid b2; clear b2))
      go_ret
      exact ⟨by rw [HF.out]; rfl, btrans HB1.out HB2.out⟩
    | true =>
      by_cases hsz : p.size = q.size
      · have HE := Lib.hid (meetOk_eq p q ha.symm hb.symm hsz)
        have hn : ((p.size : Int) != q.size) = false := by simp; omega
        have hp8 := (isP_size ha.symm).2
        have hq8 := (isP_size hb.symm).2
        have HSZ := Lib.hid hsz
        clear ha hb hsz
        have FL := Lib.hid trivial
        have FK := Lib.hid trivial
        go_enter Tryz.func102, Tryz.ntmps102
        go_wp2_with (first | (go_at_call 114; have FG := FL; refine (HA.out _ HM.out).mono ?_; rintro e w1 ⟨rfl, b1⟩; have HB1 := Lib.hid b1; clear b1 FL FG) | (go_at_call 114; refine (HB.out _ (HM.out.later HB1.out)).mono ?_; rintro e w2 ⟨rfl, b2⟩; have HB2 := Lib.hid (btrans HB1.out b2); clear b2) | (go_at_call 115; refine (idiff_any p q hp8 HSZ.out _).mono ?_; rintro e w3 ⟨rfl, b3⟩; have HB3 := Lib.hid (btrans HB2.out b3); clear b3) | (go_at_call 116; have FG := FK; refine (iopen_any p hp8 _).mono ?_; rintro e w4 ⟨rfl, b4⟩; have HB4 := Lib.hid (btrans HB3.out b4); clear b4 FK FG) | (go_at_call 116; refine (iopen_any q hq8 _).mono ?_; rintro e w5 ⟨rfl, b5⟩; have HB5 := Lib.hid (btrans HB4.out b5); clear b5))
        go_ret
        exact ⟨by rw [← HE.out]; rfl, HB5.out⟩
      · have HF : Hid (meetOk p q = false) := Lib.hid (by unfold meetOk; rw [← ha, ← hb]; simp [hsz])
        have hn : ((p.size : Int) != q.size) = true := by simp; omega
        clear ha hb hsz
        have FL := Lib.hid trivial
        go_enter Tryz.func102, Tryz.ntmps102
        go_wp2_with (first | (go_at_call 114; have FG := FL; refine (HA.out _ HM.out).mono ?_; rintro e w1 ⟨rfl, b1⟩; have HB1 := Lib.hid b1; clear b1 FL FG) | (go_at_call 114; refine (HB.out _ (HM.out.later HB1.out)).mono ?_; rintro e w2 ⟨rfl, b2⟩; have HB2 := Lib.hid b2; clear b2))
        go_ret
        exact ⟨by rw [HF.out]; rfl, btrans HB1.out HB2.out⟩

theorem fits_meet (p s : ByteArray) (h : isW s = true) : meetOk p s = fitsP p s := by
  obtain ⟨h1, h2, h3⟩ := word_of h
  have hP : isP s = true := decide_eq_true ⟨h1, h2, fun b hb => Or.inr (h3 b hb)⟩
  unfold meetOk fitsP
  rw [h, hP]
  congr 1
  refine decide_eq_decide.2 (and_congr_right fun hs => forall_congr' fun k => forall_congr' fun hk => ?_)
  unfold okM fitAt
  have hne : s.data.toList.getD k 0 ≠ 63 := fun e => by
    have hk2 : k < s.size := by omega
    have h9 := h3 _ (byte_mem s k hk2)
    rw [getD_byte s k hk2] at e
    rw [e] at h9
    exact absurd h9.1 (by decide)
  exact ⟨fun h => h.imp id fun h => h.resolve_left hne, fun h => h.imp id Or.inr⟩
set_option maxHeartbeats 800000 in
theorem ifits_any (p s : ByteArray) (w : World) (hm : ML w) (hps : p.size ≤ 1048576) (hss : s.size ≤ 1048576) :
    Calls Tryz.prog 64 #[.string p, .string s] w fun e w' => e = .returned (.bool (fitsP p s)) ∧ Below w.heap.size w w' := by
  obtain ⟨a, ha⟩ : ∃ a, a = isW s := ⟨_, rfl⟩
  have HA := Lib.hid (iiw_any s)
  rw [← ha] at HA
  have HM := Lib.hid hm
  clear hm
  cases a with
  | false =>
    have HF : Hid (fitsP p s = false) := Lib.hid (by unfold fitsP; rw [← ha]; simp)
    clear ha
    go_enter Tryz.func64, Tryz.ntmps64
    go_wp2_with (go_at_call 53; refine (HA.out _).mono ?_; rintro e w1 ⟨rfl, b1⟩; have HB1 := Lib.hid b1; clear b1)
    go_ret
    exact ⟨by rw [HF.out]; rfl, HB1.out⟩
  | true =>
    have HF := Lib.hid (fits_meet p s ha.symm)
    clear ha
    go_enter Tryz.func64, Tryz.ntmps64
    go_wp2_with (first | (go_at_call 53; refine (HA.out _).mono ?_; rintro e w1 ⟨rfl, b1⟩; have HB1 := Lib.hid b1; clear b1) | (go_at_call 102; refine (icm_any p s _ (HM.out.later HB1.out) hps hss).mono ?_; rintro e w2 ⟨rfl, b2⟩; rw [HF.out]; have HB2 := Lib.hid (btrans HB1.out b2); clear b2))
    go_ret
    exact ⟨rfl, HB2.out⟩
end Go.Proofs.YtgjijmcedonlmaaGreatDoor
namespace Go.Proofs.YtgjijmcedonlmaaGreatDoor
open Go.RowKit

def natI (l : List Nat) : List Int := l.map fun (k : Nat) => (k : Int)
theorem natI_length (l : List Nat) : (natI l).length = l.length := by simp [natI]
theorem natI_snoc (l : List Nat) (k : Nat) : natI (l ++ [k]) = natI l ++ [(k : Int)] := by simp [natI]
theorem infoIP : (Tryz.prog.info? 3).map (fun i => (i.zero, i.size, i.bytes)) = some (some (.int .i64 0), 1, 8) := by kernel_rfl
theorem infoBP : (Tryz.prog.info? 5).map (fun i => (i.zero, i.size, i.bytes)) = some (some (.int .u8 0), 1, 1) := by kernel_rfl
/-- One round of items: the lowest number goes over, its bit goes out. -/
theorem items_round (S R j : Nat) (h0 : R ≠ 0) (hR : R < 18446744073709551616) (hb : ∀ k, R.testBit k = (decide (j ≤ k) && S.testBit k)) :
    Lib.ctz 64 R < 64 ∧ itemsTo S (Lib.ctz 64 R + 1) = itemsTo S j ++ [Lib.ctz 64 R] ∧ (∀ k, (R &&& (R - 1)).testBit k = (decide (Lib.ctz 64 R + 1 ≤ k) && S.testBit k)) ∧ R &&& (R - 1) < R ∧ bits .and .u64 (R : Int) ((R : Int) - 1) = ((R &&& (R - 1) : Nat) : Int) := by
  obtain ⟨h1, h2, h3, h4⟩ := ctz_at R h0 hR
  obtain ⟨t, ht⟩ : ∃ t, t = Lib.ctz 64 R := ⟨_, rfl⟩
  rw [← ht] at h1 h2 h3 h4 ⊢
  have h5 := hb t
  rw [h1] at h5
  have h6 : j ≤ t ∧ S.testBit t = true := by simpa using h5.symm
  refine ⟨h3, ?_, fun k => ?_, ?_, ?_⟩
  · rw [itemsTo_next, if_pos h6.2, itemsTo_gap S j t h6.1 (fun k k1 k2 => by
      have h7 := hb k
      rw [h2 k k2, decide_eq_true k1] at h7
      simpa using h7.symm)]
  · rw [h4, hb]
    by_cases hk : t + 1 ≤ k
    · rw [decide_eq_true hk, decide_eq_true (show j ≤ k by omega)]; simp
    · rw [decide_eq_false hk]; rfl
  · have := Nat.and_le_right (n := R) (m := R - 1)
    omega
  · rw [show ((R : Int) - 1) = ((R - 1 : Nat) : Int) by omega, bits_and_u64_nat _ _ hR (by omega)]
theorem items_end (S j : Nat) (hj : j ≤ 64) (hb : ∀ k, Nat.testBit 0 k = (decide (j ≤ k) && S.testBit k)) : itemsTo S j = itemsTo S 64 :=
  (itemsTo_gap S j 64 hj (fun k k1 _ => by
    have h7 := hb k
    rw [Nat.zero_testBit, decide_eq_true k1] at h7
    simpa using h7.symm)).symm
end Go.Proofs.YtgjijmcedonlmaaGreatDoor
namespace Go.Proofs.YtgjijmcedonlmaaGreatDoor
open Go.RowKit

def ones1 (x : Int) : Int := IntKind.u64.wrap (bits .and .u64 (x / 2) 6148914691236517205 + bits .and .u64 x 6148914691236517205)
def ones2 (x : Int) : Int := IntKind.u64.wrap (bits .and .u64 (x / 4) 3689348814741910323 + bits .and .u64 x 3689348814741910323)
def ones3 (x : Int) : Int := bits .and .u64 (IntKind.u64.wrap (x / 16 + x)) 1085102592571150095
def ones4 (x : Int) : Int := IntKind.u64.wrap (x + x / 256)
def ones5 (x : Int) : Int := IntKind.u64.wrap (x + x / 65536)
def ones6 (x : Int) : Int := IntKind.u64.wrap (x + x / 4294967296)
/-- What the library's OnesCount64 reckons. -/
def onesE (x : Int) : Int := bits .and .i64 (wrap64 (ones6 (ones5 (ones4 (ones3 (ones2 (ones1 x))))))) 127
theorem ones_small : ∀ n : Fin 256, onesE (n.val : Int) = ((popB n.val : Nat) : Int) := by decide +kernel

end Go.Proofs.YtgjijmcedonlmaaGreatDoor
