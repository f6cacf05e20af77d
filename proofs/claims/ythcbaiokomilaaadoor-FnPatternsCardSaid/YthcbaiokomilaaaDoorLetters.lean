/-
  The model's contract of LettersAt.
-/
import Derived.Test.YthcbaiokomilaaaDoorPatTwo
namespace Go.Proofs.YthcbaiokomilaaaDoor
open Go.RowKit

/-- A word of the list has the letter c at its place a. -/
def hasAt1 (a : Nat) (c : Nat) (x : ByteArray) : Bool := isW x && decide (a < x.size) && decide ((x.data.toList.getD a 0).toNat = c)
def hasAt (l : List ByteArray) (a : Nat) (c : Nat) : Bool := l.any (hasAt1 a c)
def lettersL (l : List ByteArray) (a : Nat) (n : Nat) : List UInt8 := ((List.range n).filter fun i => hasAt l a (97 + i)).map fun i => UInt8.ofNat (97 + i)
/-- What LettersAt answers. -/
def lettersA (l : List ByteArray) (t : Int) : ByteArray := if 0 ≤ t then ⟨(lettersL l t.toNat 26).toArray⟩ else ⟨#[]⟩
theorem lettersL_next (l : List ByteArray) (a n : Nat) : lettersL l a (n + 1) = lettersL l a n ++ if hasAt l a (97 + n) = true then [UInt8.ofNat (97 + n)] else [] := by
  unfold lettersL
  rw [List.range_succ, List.filter_append, List.map_append]
  congr 1
  by_cases h : hasAt l a (97 + n) = true <;> simp [h]
theorem lettersL_len (l : List ByteArray) (a n : Nat) : (lettersL l a n).length ≤ n := by
  unfold lettersL
  rw [List.length_map]
  exact Nat.le_trans (List.length_filter_le _ _) (by simp)
theorem hasAt_next (l : List ByteArray) (a c k : Nat) (h : k < l.length) : hasAt (l.take (k + 1)) a c = (hasAt (l.take k) a c || hasAt1 a c (l.getD k ⟨#[]⟩)) := by
  unfold hasAt
  rw [List.take_succ_eq_append_getElem h, List.any_append, List.getD_eq_getElem?_getD, List.getElem?_eq_getElem h, Option.getD_some]
  simp
/-- A letter as a text. -/
def letB (n : Nat) : ByteArray := ⟨#[UInt8.ofNat (97 + n)]⟩
theorem letB_list (n : Nat) : (letB n).data.toList = [UInt8.ofNat (97 + n)] := rfl
theorem letB_size (n : Nat) : (letB n).size = 1 := rfl
theorem enc_letter (n : Nat) (h : n < 26) : Utf8.encode (97 + (n : Int)) = letB n := by
  unfold letB
  have hv : Utf8.valid (97 + (n : Int)) = true := by
    unfold Utf8.valid
    simp
    omega
  unfold Utf8.encode
  have ht : (97 + (n : Int)).toNat = 97 + n := by omega
  simp only [hv, if_true, ht]
  rw [if_pos (by omega)]
set_option maxRecDepth 100000 in
set_option maxHeartbeats 3200000 in
theorem slet_any (l : List ByteArray) (t : Int) (hl : l.length ≤ 16777216) (v : Value) (w : World) (hv : ReadsS w.heap.size w v l) (hz : ∀ z ∈ l, z.size ≤ 1048576) :
    Calls Tryd.prog 32 #[v, .int .i64 t] w fun e w' => e = .returned (.string (lettersA l t)) ∧ Below w.heap.size w w' := by
  obtain ⟨-, a0, cap, rfl, -, hc⟩ := hv.cells
  have HC := Lib.hid hc
  have HZ := Lib.hid hz
  clear hc hv hz
  by_cases ht : 0 ≤ t
  · obtain ⟨a, rfl⟩ : ∃ a : Nat, t = (a : Int) := ⟨t.toNat, by omega⟩
    have HE : Hid (lettersA l (a : Int) = ⟨(lettersL l a 26).toArray⟩) := Lib.hid (by unfold lettersA; rw [if_pos ht, Int.toNat_natCast])
    go_enter Tryd.func32, Tryd.ntmps32
    go_wp2
    go_loopw [5, 6] (fun o c wr => ∃ (n : Nat) (r : ByteArray), n ≤ 26 ∧ c = .int .i32 (97 + (n : Int)) ∧ o = .string r ∧ Hid (r.data.toList = lettersL l a n) ∧ r.size ≤ 26 ∧ Below w.heap.size w wr) (fun _ c _ => 123 - (intOf c).toNat)
    case atStart => exact ⟨0, ⟨#[]⟩, Nat.zero_le _, rfl, rfl, Lib.hid rfl, by decide, Below.refl _ _⟩
    case round =>
      obtain ⟨n, r, hn, rfl, rfl, HR, hr, hbl⟩ := hrel
      by_cases hlt : n < 26
      · obtain ⟨W, rfl⟩ : ∃ W : World, W = wr := ⟨_, rfl⟩
        have HNX := Lib.hid (lettersL_next l a n)
        have HEN := Lib.hid (enc_letter n hlt)
        have hle : decide (97 + (n : Int) ≤ 122) = true := decide_eq_true (by omega)
        go_wp2_with fail
        go_loopw [7, 8] (fun s i wi => ∃ (k : Nat) (b : Bool), k ≤ l.length ∧ i = .int .i64 k ∧ s = .bool b ∧ Hid (b = hasAt (l.take k) a (97 + n)) ∧ Below w.heap.size w wi) (fun _ i _ => l.length - (intOf i).toNat)
        case atStart => exact ⟨0, false, Nat.zero_le _, rfl, rfl, Lib.hid rfl, hbl⟩
        case round =>
          obtain ⟨k, b, hk, rfl, rfl, HB, hbi⟩ := hrel
          by_cases hkl : k < l.length
          · have HAN := Lib.hid (hasAt_next l a (97 + n) k hkl)
            obtain ⟨g, off, rfl, hg, q0⟩ := HC.out k hkl
            obtain ⟨x, hx⟩ : ∃ x, x = l.getD k ⟨#[]⟩ := ⟨_, rfl⟩
            have hxs : x.size ≤ 1048576 := HZ.out x (by rw [hx, List.getD_eq_getElem?_getD, List.getElem?_eq_getElem hkl]; exact List.getElem_mem _)
            rw [← hx] at q0 HAN
            have c0 := (hbi.cell (p := ⟨g, off + k, none⟩) hg).trans q0
            clear q0 hx
            cases b with
            | true =>
              have HB2 : Hid (true = hasAt (l.take (k + 1)) a (97 + n)) := Lib.hid (by rw [HAN.out, ← HB.out]; rfl)
              go_wp2
              go_roundw
              case rel => exact ⟨k + 1, true, by omega, by go_num, rfl, HB2, hbi⟩
              case measure => simp [intOf]; omega
            | false =>
              obtain ⟨p, hp⟩ : ∃ p, p = isW x := ⟨_, rfl⟩
              have HIW := Lib.hid (siw_same x)
              rw [← hp] at HIW
              cases p with
              | false =>
                have HB2 : Hid (false = hasAt (l.take (k + 1)) a (97 + n)) := Lib.hid (by rw [HAN.out, ← HB.out]; unfold hasAt1; rw [← hp]; rfl)
                clear hp
                go_wp2_with (go_at_call 50; refine (HIW.out _).mono ?_; rintro e w1 ⟨rfl, rfl⟩)
                go_roundw
                case rel => exact ⟨k + 1, false, by omega, by go_num, rfl, HB2, hbi⟩
                case measure => simp [intOf]; omega
              | true =>
                by_cases ha : a < x.size
                · have hd : decide ((a : Int) < (x.size : Int)) = true := decide_eq_true (by omega)
                  have hgd := getD_byte x a ha
                  have h255 : x[a].toNat ≤ 255 := by have := x[a].toNat_lt; omega
                  by_cases hq : x[a].toNat = 97 + n
                  · have HB2 : Hid (true = hasAt (l.take (k + 1)) a (97 + n)) := Lib.hid (by rw [HAN.out, ← HB.out]; unfold hasAt1; rw [← hp, hgd]; simp [ha, hq])
                    have hb : ((x[a].toNat : Int) == 97 + (n : Int)) = true := by simp; omega
                    clear hp hgd hq
                    go_wp2_with (go_at_call 50; refine (HIW.out _).mono ?_; rintro e w1 ⟨rfl, rfl⟩)
                    go_roundw
                    case rel => exact ⟨k + 1, true, by omega, by go_num, rfl, HB2, hbi⟩
                    case measure => simp [intOf]; omega
                  · have HB2 : Hid (false = hasAt (l.take (k + 1)) a (97 + n)) := Lib.hid (by rw [HAN.out, ← HB.out]; unfold hasAt1; rw [← hp, hgd]; simp [hq])
                    have hb : ((x[a].toNat : Int) == 97 + (n : Int)) = false := by simp; omega
                    clear hp hgd hq
                    go_wp2_with (go_at_call 50; refine (HIW.out _).mono ?_; rintro e w1 ⟨rfl, rfl⟩)
                    go_roundw
                    case rel => exact ⟨k + 1, false, by omega, by go_num, rfl, HB2, hbi⟩
                    case measure => simp [intOf]; omega
                · have hd : decide ((a : Int) < (x.size : Int)) = false := decide_eq_false (by omega)
                  have HB2 : Hid (false = hasAt (l.take (k + 1)) a (97 + n)) := Lib.hid (by rw [HAN.out, ← HB.out]; unfold hasAt1; rw [decide_eq_false ha]; simp)
                  clear hp
                  go_wp2_with (go_at_call 50; refine (HIW.out _).mono ?_; rintro e w1 ⟨rfl, rfl⟩)
                  go_roundw
                  case rel => exact ⟨k + 1, false, by omega, by go_num, rfl, HB2, hbi⟩
                  case measure => simp [intOf]; omega
          · have HBF : Hid (b = hasAt l a (97 + n)) := Lib.hid (by have h9 := HB.out; rw [List.take_of_length_le (by omega)] at h9; exact h9)
            cases b with
            | true =>
              have HR2 : Hid ((r ++ letB n).data.toList = lettersL l a (n + 1)) := Lib.hid (by rw [HNX.out, ← HBF.out, if_pos rfl, ← HR.out, ByteArray.data_append, Array.toList_append, letB_list])
              have hr2 : (r ++ letB n).size ≤ 26 := by rw [← size_list, HR2.out]; exact Nat.le_trans (lettersL_len _ _ _) (by omega)
              have hEN := HEN.out
              have hlb := letB_size n
              go_wp2
              go_roundw
              case rel => exact ⟨n + 1, r ++ letB n, by omega, by go_num, rfl, HR2, hr2, hbi⟩
              case measure => simp [intOf]; omega
            | false =>
              have HR2 : Hid (r.data.toList = lettersL l a (n + 1)) := Lib.hid (by rw [HNX.out, ← HBF.out, if_neg (by simp), List.append_nil, ← HR.out])
              go_wp2
              go_roundw
              case rel => exact ⟨n + 1, r, by omega, by go_num, rfl, HR2, hr, hbi⟩
              case measure => simp [intOf]; omega
      · have HF : Hid (r = lettersA l (a : Int)) := Lib.hid (str_ext (by rw [HE.out, HR.out, show n = 26 by omega]))
        go_wp2
        go_ret
        exact ⟨by rw [← HF.out]; rfl, hbl⟩
  · have HE : Hid (lettersA l t = ⟨#[]⟩) := Lib.hid (by unfold lettersA; rw [if_neg ht])
    have hd : decide (0 ≤ t) = false := decide_eq_false ht
    go_enter Tryd.func32, Tryd.ntmps32
    go_wp2
    go_loopw [5, 6] (fun o c wr => o = .string ⟨#[]⟩ ∧ c = .int .i32 97 ∧ Below w.heap.size w wr) (fun _ _ _ => 0)
    case atStart => exact ⟨rfl, rfl, Below.refl _ _⟩
    case round =>
      obtain ⟨rfl, rfl, hbl⟩ := hrel
      go_wp2
      go_ret
      exact ⟨by rw [HE.out]; rfl, hbl⟩
end Go.Proofs.YthcbaiokomilaaaDoor
