/-
  The model's contracts of chapter 4: Backwards, SortLetters, IsRearranged, CountLetter, BeforeWord.
-/
import Derived.Test.YtjgddcaobocfhaaWordFacts
import Derived.Deep.RegionWith
namespace Go.Proofs.Ytjgddcaobocfhaa
open Go.RowKit

theorem extract_one (s : ByteArray) (k : Nat) (h : k < s.size) : (s.extract k (k + 1)).data.toList = [s[k]] := by
  rw [ByteArray.data_extract]
  refine List.ext_getElem ?_ fun i h1 h2 => ?_
  · simp
    have : s.data.size = s.size := rfl
    omega
  · have hi : i = 0 := by simpa using h2
    subst hi
    simp
    rfl
theorem cons_list (s r : ByteArray) (k : Nat) (h : k < s.size) : (s.extract k (k + 1) ++ r).data.toList = s[k] :: r.data.toList := by
  rw [ByteArray.data_append, Array.toList_append, extract_one s k h]
  rfl
theorem snoc_list (s r : ByteArray) (k : Nat) (h : k < s.size) : (r ++ s.extract k (k + 1)).data.toList = r.data.toList ++ [s[k]] := by
  rw [ByteArray.data_append, Array.toList_append, extract_one s k h]

set_option maxHeartbeats 800000 in
theorem sback_any (s : ByteArray) (w : World) (hs : s.size ≤ 1048576) :
    Calls Try.prog 21 #[.string s] w fun e w' => e = .returned (.string (backL s)) ∧ Below w.heap.size w w' := by
  by_cases h100 : s.size ≤ 100
  · go_enter Try.func21, Try.ntmps21
    go_wp2
    go_loopw [3, 4] (fun o i wr => ∃ (k : Nat) (r : ByteArray), k ≤ s.size ∧ i = .int .i64 k ∧ o = .string r ∧ Hid (r.data.toList = (s.data.toList.take k).reverse) ∧ r.size ≤ 100 ∧ Below w.heap.size w wr) (fun _ i _ => s.size - (intOf i).toNat)
    case atStart => exact ⟨0, ⟨#[]⟩, Nat.zero_le _, rfl, rfl, Lib.hid (by simp), by decide, Below.refl _ _⟩
    case round =>
      obtain ⟨k, r, hk, rfl, rfl, HR, hr, hbl⟩ := hrel
      by_cases hlt : k < s.size
      · have HR2 : Hid ((s.extract k (k + 1) ++ r).data.toList = (s.data.toList.take (k + 1)).reverse) := Lib.hid (by rw [cons_list s r k hlt, HR.out, take_snoc s k hlt]; simp)
        have hr2 : (s.extract k (k + 1) ++ r).size ≤ 100 := by
          rw [← size_list, HR2.out, List.length_reverse, List.length_take, size_list]
          omega
        go_wp2
        go_roundw
        case rel => exact ⟨k + 1, _, by omega, by go_num, rfl, HR2, hr2, hbl⟩
        case measure => simp [intOf]; omega
      · have HF : Hid (r = backL s) := Lib.hid (str_ext (by rw [back_list h100, HR.out, show k = s.data.toList.length by rw [size_list]; omega, List.take_length]))
        go_wp2
        go_ret
        exact ⟨by rw [← HF.out]; rfl, hbl⟩
  · have HF : Hid (backL s = ⟨#[]⟩) := Lib.hid (by unfold backL; rw [if_neg h100])
    have hd : decide ((s.size : Int) ≤ 100) = false := decide_eq_false (by omega)
    clear h100
    go_enter Try.func21, Try.ntmps21
    go_wp2
    go_loopw [3, 4] (fun o i wr => i = .int .i64 0 ∧ o = .string ⟨#[]⟩ ∧ Below w.heap.size w wr) (fun _ _ _ => 0)
    case atStart => exact ⟨rfl, rfl, Below.refl _ _⟩
    case round =>
      obtain ⟨rfl, rfl, hbl⟩ := hrel
      go_wp2
      all_goals go_ret
      all_goals exact ⟨by rw [HF.out]; rfl, hbl⟩

set_option maxHeartbeats 1600000 in
theorem ssort_yes (s : ByteArray) (hw : isW s = true) (w : World) :
    Calls Try.prog 22 #[.string s] w fun e w' => e = .returned (.string (sortL s)) ∧ Below w.heap.size w w' := by
  have HW := Lib.hid hw
  have hsz := (word_of hw).2.1
  have HIW := Lib.hid (siw_any s)
  rw [hw] at HIW
  clear hw
  go_enter Try.func22, Try.ntmps22
  go_wp2
  go_loopw [3, 4] (fun o c wr => ∃ (j : Nat) (r : ByteArray), j ≤ 26 ∧ c = .int .i32 (97 + j) ∧ o = .string r ∧ Hid (r.data.toList = (List.range j).flatMap (nth s.data.toList)) ∧ r.size ≤ 8 * j ∧ Below w.heap.size w wr) (fun _ c _ => 123 - (intOf c).toNat)
  case atStart => exact ⟨0, ⟨#[]⟩, by decide, rfl, rfl, Lib.hid (by simp), by decide, Below.refl _ _⟩
  case round =>
    obtain ⟨j, r, hj, rfl, rfl, HR, hr, hbl⟩ := hrel
    by_cases hlt : j < 26
    · go_wp2_with (go_at_call 20; refine (HIW.out _).mono ?_; rintro e w2 ⟨rfl, b2⟩)
      have hb2 := btrans hbl b2
      clear b2
      go_loopw [3, 5] (fun o i wi => ∃ (k : Nat) (q : ByteArray), k ≤ s.size ∧ i = .int .i64 k ∧ o = .string q ∧ Hid (q.data.toList = (List.range j).flatMap (nth s.data.toList) ++ nth (s.data.toList.take k) j) ∧ q.size ≤ 8 * j + k ∧ Below w.heap.size w wi) (fun _ i _ => s.size - (intOf i).toNat)
      case atStart => exact ⟨0, r, Nat.zero_le _, rfl, rfl, Lib.hid (by rw [HR.out]; simp [nth]), by omega, hb2⟩
      case round =>
        obtain ⟨k, q, hk, rfl, rfl, HQ, hq, hbi⟩ := hrel
        by_cases hk2 : k < s.size
        · have hb8 : s[k].toNat ≤ 255 := by have := UInt8.toNat_lt s[k]; omega
          by_cases he : s[k].toNat = 97 + j
          · have hd : ((s[k].toNat : Int) == 97 + (j : Int)) = true := by simp; omega
            have HQ2 : Hid ((q ++ s.extract k (k + 1)).data.toList = (List.range j).flatMap (nth s.data.toList) ++ nth (s.data.toList.take (k + 1)) j) := Lib.hid (by
              rw [snoc_list s q k hk2, HQ.out, take_snoc s k hk2]
              simp [nth, he])
            have hq2 : (q ++ s.extract k (k + 1)).size ≤ 8 * j + (k + 1) := by
              rw [← size_list, snoc_list s q k hk2, List.length_append, size_list]
              simp
              omega
            go_wp2
            go_roundw
            case rel => exact ⟨k + 1, _, by omega, by go_num, rfl, HQ2, hq2, hbi⟩
            case measure => simp [intOf]; omega
          · have hd : ((s[k].toNat : Int) == 97 + (j : Int)) = false := by simp; omega
            have HQ2 : Hid (q.data.toList = (List.range j).flatMap (nth s.data.toList) ++ nth (s.data.toList.take (k + 1)) j) := Lib.hid (by
              rw [HQ.out, take_snoc s k hk2]
              simp [nth, he])
            go_wp2
            go_roundw
            case rel => exact ⟨k + 1, q, by omega, by go_num, rfl, HQ2, by omega, hbi⟩
            case measure => simp [intOf]; omega
        · have HQ2 : Hid (q.data.toList = (List.range (j + 1)).flatMap (nth s.data.toList)) := Lib.hid (by
            rw [HQ.out, show k = s.data.toList.length by rw [size_list]; omega, List.take_length, List.range_succ]
            simp)
          go_wp2
          go_roundw
          case rel => exact ⟨j + 1, q, by omega, by rw [show (97 + (j : Int) + 1) = 97 + ((j + 1 : Nat) : Int) by omega], rfl, HQ2, by omega, hbi⟩
          case measure => simp [intOf]; omega
    · have hj' : j = 26 := by omega
      have HF : Hid (r = sortL s) := Lib.hid (str_ext (by rw [sort_list HW.out, HR.out, hj']; rfl))
      clear hj'
      go_wp2
      go_ret
      exact ⟨by rw [← HF.out]; rfl, hbl⟩

set_option maxHeartbeats 800000 in
theorem ssort_no (s : ByteArray) (hw : isW s = false) (w : World) :
    Calls Try.prog 22 #[.string s] w fun e w' => e = .returned (.string (sortL s)) ∧ Below w.heap.size w w' := by
  have HF := Lib.hid (sort_none hw)
  have HIW := Lib.hid (siw_any s)
  rw [hw] at HIW
  clear hw
  go_enter Try.func22, Try.ntmps22
  go_wp2
  go_loopw [3, 4] (fun o c wr => c = .int .i32 97 ∧ o = .string ⟨#[]⟩ ∧ Below w.heap.size w wr) (fun _ _ _ => 0)
  case atStart => exact ⟨rfl, rfl, Below.refl _ _⟩
  case round =>
    obtain ⟨rfl, rfl, hbl⟩ := hrel
    go_wp2_with (go_at_call 20; refine (HIW.out _).mono ?_; rintro e w2 ⟨rfl, b2⟩)
    go_ret
    exact ⟨by rw [HF.out]; rfl, btrans hbl b2⟩
theorem ssort_any (s : ByteArray) (w : World) :
    Calls Try.prog 22 #[.string s] w fun e w' => e = .returned (.string (sortL s)) ∧ Below w.heap.size w w' := by
  cases hw : isW s with
  | true => exact ssort_yes s hw w
  | false => exact ssort_no s hw w

theorem str_beq (a b : ByteArray) : (a.toList == b.toList) = decide (a = b) := by
  rw [ByteArray.toList_eq, ByteArray.toList_eq]
  by_cases h : a = b
  · subst h; simp
  · rw [decide_eq_false h]
    exact beq_eq_false_iff_ne.2 (fun e => h (str_ext e))
set_option maxHeartbeats 800000 in
theorem srear_any (a b : ByteArray) (w : World) :
    Calls Try.prog 23 #[.string a, .string b] w fun e w' => e = .returned (.bool (rearr a b)) ∧ Below w.heap.size w w' := by
  obtain ⟨p, hp⟩ : ∃ p, p = isW a := ⟨_, rfl⟩
  obtain ⟨q, hq⟩ : ∃ q, q = isW b := ⟨_, rfl⟩
  have HA := Lib.hid (siw_any a)
  have HB := Lib.hid (siw_any b)
  rw [← hp] at HA
  rw [← hq] at HB
  have HR : Hid (rearr a b = (p && q && decide (a ≠ b) && decide (sortL a = sortL b))) := Lib.hid (by unfold rearr; rw [hp, hq])
  clear hp hq
  have HSA := Lib.hid (ssort_any a)
  have HSB := Lib.hid (ssort_any b)
  obtain ⟨x, hx⟩ : ∃ x, x = sortL a := ⟨_, rfl⟩
  obtain ⟨y, hy⟩ : ∃ y, y = sortL b := ⟨_, rfl⟩
  rw [← hx] at HSA HR
  rw [← hy] at HSB HR
  clear hx hy
  obtain ⟨t, ht⟩ : ∃ t, t = decide (a = b) := ⟨_, rfl⟩
  have heq : (a.toList == b.toList) = t := by rw [str_beq, ht]
  have HR2 : Hid (rearr a b = (p && q && !t && decide (x = y))) := Lib.hid (by rw [HR.out, ht]; simp)
  have HSE := Lib.hid (str_beq x y)
  clear ht HR
  cases p with
  | false =>
    go_enter Try.func23, Try.ntmps23
    go_wp2_with (go_at_call_of 20 (Value.string a); refine (HA.out _).mono ?_; rintro e w1 ⟨rfl, b1⟩)
    go_ret
    exact ⟨by rw [HR2.out]; rfl, b1⟩
  | true =>
    cases q with
    | false =>
      go_enter Try.func23, Try.ntmps23
      go_wp2_with (first | (go_at_call_of 20 (Value.string a); refine (HA.out _).mono ?_; rintro e w1 ⟨rfl, b1⟩) | (go_at_call_of 20 (Value.string b); refine (HB.out _).mono ?_; rintro e w2 ⟨rfl, b2⟩))
      go_ret
      exact ⟨by rw [HR2.out]; rfl, btrans b1 b2⟩
    | true =>
      cases t with
      | true =>
        go_enter Try.func23, Try.ntmps23
        go_wp2_with (first | (go_at_call_of 20 (Value.string a); refine (HA.out _).mono ?_; rintro e w1 ⟨rfl, b1⟩) | (go_at_call_of 20 (Value.string b); refine (HB.out _).mono ?_; rintro e w2 ⟨rfl, b2⟩))
        go_ret
        exact ⟨by rw [HR2.out]; rfl, btrans b1 b2⟩
      | false =>
        go_enter Try.func23, Try.ntmps23
        go_wp2_with (first | (go_at_call_of 20 (Value.string a); refine (HA.out _).mono ?_; rintro e w1 ⟨rfl, b1⟩) | (go_at_call_of 20 (Value.string b); refine (HB.out _).mono ?_; rintro e w2 ⟨rfl, b2⟩) | (go_at_call_of 22 (Value.string a); refine (HSA.out _).mono ?_; rintro e w3 ⟨rfl, b3⟩) | (go_at_call_of 22 (Value.string b); refine (HSB.out _).mono ?_; rintro e w4 ⟨rfl, b4⟩))
        go_ret
        exact ⟨by rw [HR2.out, ← HSE.out]; rfl, btrans (btrans (btrans b1 b2) b3) b4⟩

set_option maxHeartbeats 800000 in
theorem sbef_same (a b : ByteArray) (w : World) :
    Calls Try.prog 25 #[.string a, .string b] w fun e w' => e = .returned (.bool (befW a b)) ∧ w = w' := by
  by_cases h : a.size = b.size
  · have hb : ((a.size : Int) != b.size) = false := by simp; omega
    have HF : Hid (befW a b = Op.bytesLess a.toList b.toList) := Lib.hid (by unfold befW; rw [if_pos h])
    clear h
    go_enter Try.func25, Try.ntmps25
    go_wp2
    go_ret
    exact ⟨by rw [HF.out]; rfl, rfl⟩
  · have hb : ((a.size : Int) != b.size) = true := by simp; omega
    have HF : Hid (befW a b = decide (a.size < b.size)) := Lib.hid (by unfold befW; rw [if_neg h])
    clear h
    go_enter Try.func25, Try.ntmps25
    go_wp2
    go_ret
    exact ⟨by rw [HF.out]; rfl, rfl⟩
theorem sbef_any (a b : ByteArray) (w : World) :
    Calls Try.prog 25 #[.string a, .string b] w fun e w' => e = .returned (.bool (befW a b)) ∧ Below w.heap.size w w' :=
  (sbef_same a b w).mono fun _ _ ⟨h1, h2⟩ => ⟨h1, h2 ▸ Below.refl _ _⟩

theorem count_next (s : ByteArray) (b : UInt8) (k : Nat) (h : k < s.size) : (s.data.toList.take (k + 1)).count b = (s.data.toList.take k).count b + (if s[k] = b then 1 else 0) := by
  rw [take_snoc s k h, List.count_append]
  congr 1
  by_cases e : s[k] = b
  · rw [if_pos e, e]; simp
  · rw [if_neg e, List.count_eq_zero]; simp; exact fun h => e h.symm
set_option maxHeartbeats 800000 in
theorem scnt_any (s t : ByteArray) (w : World) :
    Calls Try.prog 24 #[.string s, .string t] w fun e w' => e = .returned (.int .i64 (cntL s t)) ∧ Below w.heap.size w w' := by
  have HS := Lib.hid (siw_any s)
  have HT := Lib.hid (siw_any t)
  by_cases hyes : isW s = true ∧ isW t = true ∧ t.size = 1
  · obtain ⟨h1, h2, h3⟩ := hyes
    have hsz := (word_of h1).2.1
    obtain ⟨b, hb⟩ : ∃ b, b = t[0] := ⟨_, rfl⟩
    have HC : Hid (cntL s t = ((s.data.toList.count b : Nat) : Int)) := Lib.hid (by
      unfold cntL
      rw [if_pos ⟨h1, h2, h3⟩]
      congr 2
      rw [hb]
      have h4 : t.data.toList = [t[0]] := by
        have := take_snoc t 0 (by omega)
        rw [List.take_of_length_le (by rw [size_list]; omega)] at this
        simpa using this
      rw [h4]
      rfl)
    rw [h1] at HS
    rw [h2] at HT
    clear h1 h2
    go_enter Try.func24, Try.ntmps24
    go_wp2
    go_loopw [5, 6] (fun n i wr => ∃ (k c : Nat), k ≤ s.size ∧ i = .int .i64 k ∧ n = .int .i64 c ∧ Hid (c = (s.data.toList.take k).count b) ∧ c ≤ k ∧ Below w.heap.size w wr) (fun _ i _ => s.size - (intOf i).toNat)
    case atStart => exact ⟨0, 0, Nat.zero_le _, rfl, rfl, Lib.hid (by simp), by decide, Below.refl _ _⟩
    case round =>
      obtain ⟨k, c, hk, rfl, rfl, HN, hc, hbl⟩ := hrel
      by_cases hlt : k < s.size
      · by_cases he : s[k] = b
        · have hd : ((s[k].toNat : Int) == (t[0].toNat : Int)) = true := by rw [he, hb]; simp
          have HN2 : Hid (c + 1 = (s.data.toList.take (k + 1)).count b) := Lib.hid (by rw [count_next s b k hlt, if_pos he, ← HN.out])
          clear he
          go_wp2_with (first | (go_at_call_of 20 (Value.string s); refine (HS.out _).mono ?_; rintro e w1 ⟨rfl, b1⟩) | (go_at_call_of 20 (Value.string t); refine (HT.out _).mono ?_; rintro e w2 ⟨rfl, b2⟩))
          have hb2 := btrans (btrans hbl b1) b2
          clear b1 b2
          go_quiet (fail)
          all_goals go_wp2
          go_roundw
          case rel => exact ⟨k + 1, c + 1, by omega, by go_num, by go_num, HN2, by omega, below_drewN hb2 _⟩
          case measure => simp [intOf]; omega
        · have hd : ((s[k].toNat : Int) == (t[0].toNat : Int)) = false := by
            rw [← hb]
            refine beq_eq_false_iff_ne.2 (fun h => he (UInt8.toNat_inj.1 (by omega)))
          have HN2 : Hid (c = (s.data.toList.take (k + 1)).count b) := Lib.hid (by rw [count_next s b k hlt, if_neg he, ← HN.out]; rfl)
          clear he
          go_wp2_with (first | (go_at_call_of 20 (Value.string s); refine (HS.out _).mono ?_; rintro e w1 ⟨rfl, b1⟩) | (go_at_call_of 20 (Value.string t); refine (HT.out _).mono ?_; rintro e w2 ⟨rfl, b2⟩))
          have hb2 := btrans (btrans hbl b1) b2
          clear b1 b2
          go_quiet (fail)
          all_goals go_wp2
          go_roundw
          case rel => exact ⟨k + 1, c, by omega, by go_num, rfl, HN2, by omega, below_drewN hb2 _⟩
          case measure => simp [intOf]; omega
      · have HF : Hid (cntL s t = (c : Int)) := Lib.hid (by rw [HC.out, HN.out, show k = s.data.toList.length by rw [size_list]; omega, List.take_length])
        go_wp2
        go_ret
        exact ⟨by rw [HF.out]; rfl, hbl⟩
  · have HF : Hid (cntL s t = 0) := Lib.hid (by unfold cntL; rw [if_neg hyes])
    by_cases h0 : 0 < s.size
    · obtain ⟨p, hp⟩ : ∃ p, p = isW s := ⟨_, rfl⟩
      obtain ⟨q, hq⟩ : ∃ q, q = isW t := ⟨_, rfl⟩
      rw [← hp] at HS
      rw [← hq] at HT
      rw [← hp, ← hq] at hyes
      clear hp hq
      cases p with
      | false =>
        clear hyes
        go_enter Try.func24, Try.ntmps24
        go_wp2
        go_loopw [5, 6] (fun n i wr => i = .int .i64 0 ∧ n = .int .i64 0 ∧ Below w.heap.size w wr) (fun _ _ _ => 0)
        case atStart => exact ⟨rfl, rfl, Below.refl _ _⟩
        case round =>
          obtain ⟨rfl, rfl, hbl⟩ := hrel
          go_wp2_with (first | (go_at_call_of 20 (Value.string s); refine (HS.out _).mono ?_; rintro e w1 ⟨rfl, b1⟩) | (go_at_call_of 20 (Value.string t); refine (HT.out _).mono ?_; rintro e w2 ⟨rfl, b2⟩))
          go_ret
          exact ⟨by rw [HF.out]; rfl, btrans hbl b1⟩
      | true =>
        cases q with
        | false =>
          clear hyes
          go_enter Try.func24, Try.ntmps24
          go_wp2
          go_loopw [5, 6] (fun n i wr => i = .int .i64 0 ∧ n = .int .i64 0 ∧ Below w.heap.size w wr) (fun _ _ _ => 0)
          case atStart => exact ⟨rfl, rfl, Below.refl _ _⟩
          case round =>
            obtain ⟨rfl, rfl, hbl⟩ := hrel
            go_wp2_with (first | (go_at_call_of 20 (Value.string s); refine (HS.out _).mono ?_; rintro e w1 ⟨rfl, b1⟩) | (go_at_call_of 20 (Value.string t); refine (HT.out _).mono ?_; rintro e w2 ⟨rfl, b2⟩))
            go_ret
            exact ⟨by rw [HF.out]; rfl, btrans (btrans hbl b1) b2⟩
        | true =>
          have hz : ((t.size : Int) == 1) = false := beq_eq_false_iff_ne.2 (fun h => hyes ⟨rfl, rfl, by omega⟩)
          clear hyes
          go_enter Try.func24, Try.ntmps24
          go_wp2
          go_loopw [5, 6] (fun n i wr => i = .int .i64 0 ∧ n = .int .i64 0 ∧ Below w.heap.size w wr) (fun _ _ _ => 0)
          case atStart => exact ⟨rfl, rfl, Below.refl _ _⟩
          case round =>
            obtain ⟨rfl, rfl, hbl⟩ := hrel
            go_wp2_with (first | (go_at_call_of 20 (Value.string s); refine (HS.out _).mono ?_; rintro e w1 ⟨rfl, b1⟩) | (go_at_call_of 20 (Value.string t); refine (HT.out _).mono ?_; rintro e w2 ⟨rfl, b2⟩))
            go_ret
            exact ⟨by rw [HF.out]; rfl, btrans (btrans hbl b1) b2⟩
    · go_enter Try.func24, Try.ntmps24
      go_wp2
      go_loopw [5, 6] (fun n i wr => i = .int .i64 0 ∧ n = .int .i64 0 ∧ Below w.heap.size w wr) (fun _ _ _ => 0)
      case atStart => exact ⟨rfl, rfl, Below.refl _ _⟩
      case round =>
        obtain ⟨rfl, rfl, hbl⟩ := hrel
        go_wp2_with (first | (go_at_call_of 20 (Value.string s); refine (HS.out _).mono ?_; rintro e w1 ⟨rfl, b1⟩) | (go_at_call_of 20 (Value.string t); refine (HT.out _).mono ?_; rintro e w2 ⟨rfl, b2⟩))
        go_ret
        exact ⟨by rw [HF.out]; rfl, hbl⟩
end Go.Proofs.Ytjgddcaobocfhaa
