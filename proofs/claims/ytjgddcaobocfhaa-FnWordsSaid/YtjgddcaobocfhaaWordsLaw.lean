/-
  The walk of the law FnWords: true at every byte slice.
-/
import Derived.Test.YtjgddcaobocfhaaSame
import Derived.Test.YtjgddcaobocfhaaDrawWord
import Derived.Test.YtjgddcaobocfhaaWordImpl
import Derived.Deep.RegionWith
namespace Go.Proofs.Ytjgddcaobocfhaa.fnWords
open Go.RowKit

theorem j_IsWord (a : ByteArray) (h : a.size ≤ 10) (w : World) : Calls Try.prog 13 #[.string a] w fun e w' => e = .returned (.bool (isW a)) ∧ Below w.heap.size w w' :=
  (i_IsWord a w (by omega)).mono fun _ _ ⟨_, h1, h2, h3⟩ => ⟨h1 ▸ h2, h3⟩
theorem j_Backwards (a : ByteArray) (h : a.size ≤ 10) (w : World) : Calls Try.prog 12 #[.string a] w fun e w' => e = .returned (.string (backL a)) ∧ Below w.heap.size w w' :=
  (i_Backwards a w (by omega)).mono fun _ _ ⟨_, h1, h2, h3⟩ => ⟨h1 ▸ h2, h3⟩
theorem j_SortLetters (a : ByteArray) (h : a.size ≤ 10) (w : World) : Calls Try.prog 14 #[.string a] w fun e w' => e = .returned (.string (sortL a)) ∧ Below w.heap.size w w' :=
  (i_SortLetters a w (by omega)).mono fun _ _ ⟨_, h1, h2, h3⟩ => ⟨h1 ▸ h2, h3⟩
theorem j_IsRearranged (a b : ByteArray) (h : a.size ≤ 10) (k : b.size ≤ 10) (w : World) : Calls Try.prog 16 #[.string a, .string b] w fun e w' => e = .returned (.bool (rearr a b)) ∧ Below w.heap.size w w' :=
  (i_IsRearranged a b w (by omega) (by omega)).mono fun _ _ ⟨_, h1, h2, h3⟩ => ⟨h1 ▸ h2, h3⟩
theorem j_CountLetter (a b : ByteArray) (h : a.size ≤ 10) (k : b.size ≤ 10) (w : World) : Calls Try.prog 17 #[.string a, .string b] w fun e w' => e = .returned (.int .i64 (cntL a b)) ∧ Below w.heap.size w w' :=
  (i_CountLetter a b w (by omega) (by omega)).mono fun _ _ ⟨_, h1, h2, h3⟩ => ⟨h1 ▸ h2, h3⟩
theorem j_BeforeWord (a b : ByteArray) (h : a.size ≤ 10) (k : b.size ≤ 10) (w : World) : Calls Try.prog 19 #[.string a, .string b] w fun e w' => e = .returned (.bool (befW a b)) ∧ Below w.heap.size w w' :=
  (i_BeforeWord a b w (by omega) (by omega)).mono fun _ _ ⟨_, h1, h2, h3⟩ => ⟨h1 ▸ h2, h3⟩

set_option maxRecDepth 100000 in
set_option maxHeartbeats 1600000 in
theorem walk (v0 : Value) (l0 : List Int) (w : World) (hR : Reads w.heap.size w v0 .u8 l0) (hB : ∀ z ∈ l0, 0 ≤ z ∧ z ≤ 255) :
    Calls Try.prog 3 #[v0] w fun e w' => e = .returned (.bool true) ∧ Below w.heap.size w w' := by
  obtain ⟨a0, cap, rfl⟩ : ∃ a0 cap, v0 = .slice a0 l0.length cap := ⟨hR.2.choose, hR.2.choose_spec.choose, hR.2.choose_spec.choose_spec.1⟩
  have hc := code_of_reads hR rfl hB
  clear hR hB
  by_cases hbig : 1048576 < l0.length
  · go_enter Try.func3, Try.ntmps3
    go_wp2_with (go_at_call 10; refine (big_yes l0.length cap a0 hbig _).mono ?_; rintro e w1 ⟨rfl, rfl⟩)
    go_ret
    exact ⟨rfl, Below.refl _ _⟩
  · go_enter Try.func3, Try.ntmps3
    go_wp2_with (first | (go_at_call 10; refine (big_no l0.length cap a0 (by omega) _).mono ?_; rintro e w0 ⟨rfl, rfl⟩) | (go_at_call 11; refine (diw_any l0.length cap a0 _ hc (by omega)).mono ?_; rintro e w1 ⟨x, hx, rfl, b1⟩; have HB1 := Lib.hid b1; clear b1))
    obtain ⟨y, hy⟩ : ∃ y, y = backL x := ⟨_, rfl⟩
    obtain ⟨p, hp⟩ : ∃ p, p = isW x := ⟨_, rfl⟩
    obtain ⟨s, hs⟩ : ∃ s, s = sortL x := ⟨_, rfl⟩
    have hy10 : y.size ≤ 10 := by rw [hy, back_size (by omega)]; exact hx
    have TB := Lib.hid (j_Backwards x hx)
    have TY := Lib.hid (j_Backwards y hy10)
    have TW := Lib.hid (j_IsWord x hx)
    have TV := Lib.hid (j_IsWord y hy10)
    have TS := Lib.hid (j_SortLetters x hx)
    have TT := Lib.hid (j_SortLetters y hy10)
    rw [← hy] at TB
    rw [show backL y = x by rw [hy, back_back (by omega)]] at TY
    rw [← hp] at TW
    rw [show isW y = p by rw [hy, isW_back (by omega), hp]] at TV
    rw [← hs] at TS
    rw [show sortL y = s by rw [hy, sort_back (by omega), hs]] at TT
    have hps : (p = true ∧ ((s.size : Int) != x.size) = false) ∨ (p = false ∧ s = ⟨#[]⟩) := by
      cases hq : p with
      | true => left; rw [hs, sort_size (by rw [← hp, hq])]; simp
      | false => right; rw [hs, sort_none (by rw [← hp, hq])]; simp
    clear hy hp hs
    rcases hps with ⟨rfl, hsz⟩ | ⟨rfl, rfl⟩
    all_goals
      go_wp2_with (first | (go_at_call_of 12 (#[Value.string x] : Array Value); refine (TB.out _).mono ?_; rintro e w2 ⟨rfl, b⟩; have HB2 := Lib.hid (btrans HB1.out b); clear HB1 b; have HB1 := HB2; clear HB2) | (go_at_call_of 12 (#[Value.string y] : Array Value); refine (TY.out _).mono ?_; rintro e w2 ⟨rfl, b⟩; have HB2 := Lib.hid (btrans HB1.out b); clear HB1 b; have HB1 := HB2; clear HB2) | (go_at_call_of 13 (#[Value.string x] : Array Value); refine (TW.out _).mono ?_; rintro e w2 ⟨rfl, b⟩; have HB2 := Lib.hid (btrans HB1.out b); clear HB1 b; have HB1 := HB2; clear HB2) | (go_at_call_of 13 (#[Value.string y] : Array Value); refine (TV.out _).mono ?_; rintro e w2 ⟨rfl, b⟩; have HB2 := Lib.hid (btrans HB1.out b); clear HB1 b; have HB1 := HB2; clear HB2) | (go_at_call_of 14 (#[Value.string x] : Array Value); refine (TS.out _).mono ?_; rintro e w2 ⟨rfl, b⟩; have HB2 := Lib.hid (btrans HB1.out b); clear HB1 b; have HB1 := HB2; clear HB2) | (go_at_call_of 14 (#[Value.string y] : Array Value); refine (TT.out _).mono ?_; rintro e w2 ⟨rfl, b⟩; have HB2 := Lib.hid (btrans HB1.out b); clear HB1 b; have HB1 := HB2; clear HB2) | (go_at_call 15; refine (dir_any l0.length cap a0 _ (code_later hc HB1.out) (by omega)).mono ?_; rintro e w4 ⟨a, b, ha, hb, rfl, b4⟩; have HB4 := Lib.hid (btrans HB1.out b4); clear b4))
      clear HB1
      have HB1 := HB4
      clear HB4 TB TY TW TV TS TT
      obtain ⟨q, hq⟩ : ∃ q, q = rearr a b := ⟨_, rfl⟩
      obtain ⟨n, hn⟩ : ∃ n, n = cntL b ⟨#[97]⟩ := ⟨_, rfl⟩
      obtain ⟨m, hm⟩ : ∃ m, m = cntL a ⟨#[97]⟩ := ⟨_, rfl⟩
      have RA := Lib.hid (j_IsRearranged a b ha hb)
      have RB := Lib.hid (j_IsRearranged b a hb ha)
      have RS := Lib.hid (j_IsRearranged a a ha ha)
      have CA := Lib.hid (j_CountLetter a ⟨#[97]⟩ ha (by decide))
      have CB := Lib.hid (j_CountLetter b ⟨#[97]⟩ hb (by decide))
      rw [← hq] at RA
      rw [rearr_comm b a, ← hq] at RB
      rw [rearr_self a] at RS
      rw [← hm] at CA
      rw [← hn] at CB
      have hqq : q = false ∨ (q = true ∧ ((a.size : Int) != b.size) = false ∧ m = n) := by
        cases hr : q with
        | false => exact Or.inl rfl
        | true =>
          right
          have h9 : rearr a b = true := by rw [← hq, hr]
          exact ⟨rfl, by rw [rearr_size h9]; simp, by rw [hm, hn, rearr_count h9]⟩
      clear hq hn hm
      rcases hqq with rfl | ⟨rfl, hab, rfl⟩
    all_goals
      go_wp2_with (first | (go_at_call_of 16 (#[Value.string a, Value.string b] : Array Value); refine (RA.out _).mono ?_; rintro e w5 ⟨rfl, b⟩; have HB2 := Lib.hid (btrans HB1.out b); clear HB1 b; have HB1 := HB2; clear HB2) | (go_at_call_of 16 (#[Value.string b, Value.string a] : Array Value); refine (RB.out _).mono ?_; rintro e w5 ⟨rfl, b⟩; have HB2 := Lib.hid (btrans HB1.out b); clear HB1 b; have HB1 := HB2; clear HB2) | (go_at_call_of 16 (#[Value.string a, Value.string a] : Array Value); refine (RS.out _).mono ?_; rintro e w5 ⟨rfl, b⟩; have HB2 := Lib.hid (btrans HB1.out b); clear HB1 b; have HB1 := HB2; clear HB2) | (go_at_call_of 17 (#[Value.string a, Value.string ⟨#[97]⟩] : Array Value); refine (CA.out _).mono ?_; rintro e w5 ⟨rfl, b⟩; have HB2 := Lib.hid (btrans HB1.out b); clear HB1 b; have HB1 := HB2; clear HB2) | (go_at_call_of 17 (#[Value.string b, Value.string ⟨#[97]⟩] : Array Value); refine (CB.out _).mono ?_; rintro e w5 ⟨rfl, b⟩; have HB2 := Lib.hid (btrans HB1.out b); clear HB1 b; have HB1 := HB2; clear HB2) | (go_at_call 18; refine (dbw_any l0.length cap a0 _ (code_later hc HB1.out) (by omega)).mono ?_; rintro e w6 ⟨c, d, hc1, hd1, rfl, b6⟩; have HB6 := Lib.hid (btrans HB1.out b6); clear b6))
      clear HB1
      have HB1 := HB6
      clear HB6 RA RB RS CA CB
      obtain ⟨f, hf⟩ : ∃ f, f = befW c d := ⟨_, rfl⟩
      obtain ⟨g, hg⟩ : ∃ g, g = befW d c := ⟨_, rfl⟩
      obtain ⟨t, ht⟩ : ∃ t, t = (c.toList == d.toList) := ⟨_, rfl⟩
      have BC := Lib.hid (j_BeforeWord c d hc1 hd1)
      have BD := Lib.hid (j_BeforeWord d c hd1 hc1)
      rw [← hf] at BC
      rw [← hg] at BD
      have hfg : (f = true ∧ g = false) ∨ (f = false ∧ g = true) ∨ (f = false ∧ g = false ∧ t = true) := by
        cases h1 : f with
        | true => exact Or.inl ⟨rfl, by rw [hg, bef_asymm (by rw [← hf, h1])]⟩
        | false =>
          cases h2 : g with
          | true => exact Or.inr (Or.inl ⟨rfl, rfl⟩)
          | false =>
            refine Or.inr (Or.inr ⟨rfl, rfl, ?_⟩)
            rw [ht, bef_total (a := c) (b := d) (by rw [← hf, h1]) (by rw [← hg, h2])]
            simp
      have hte := ht.symm
      clear hf hg ht
      rcases hfg with ⟨rfl, rfl⟩ | ⟨rfl, rfl⟩ | ⟨rfl, rfl, rfl⟩
    all_goals
      go_wp2_with (first | (go_at_call_of 19 (#[Value.string c, Value.string d] : Array Value); refine (BC.out _).mono ?_; rintro e w7 ⟨rfl, b⟩; have HB2 := Lib.hid (btrans HB1.out b); clear HB1 b; have HB1 := HB2; clear HB2) | (go_at_call_of 19 (#[Value.string d, Value.string c] : Array Value); refine (BD.out _).mono ?_; rintro e w7 ⟨rfl, b⟩; have HB2 := Lib.hid (btrans HB1.out b); clear HB1 b; have HB1 := HB2; clear HB2))
      go_ret
      exact ⟨rfl, HB1.out⟩
end Go.Proofs.Ytjgddcaobocfhaa.fnWords
