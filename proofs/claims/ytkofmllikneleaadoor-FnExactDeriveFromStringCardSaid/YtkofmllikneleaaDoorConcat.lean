/-
  Contracts of slices.Grow (of nil) and slices.Concat, for slices of ints; of impl.KeyedHash.
-/
import Derived.Test.YtkofmllikneleaaDoorCryptoPlain
import Derived.Lib.AppendZeros
namespace Go.Proofs.YtkofmllikneleaaDoor
open Go.RowKit

theorem infoInt4 : (Tryd.prog.info? 3).map (fun i => (i.zero, i.size, i.bytes)) = some (some (.int .i64 0), 1, 8) := by kernel_rfl
/-- A row of the call's own whose length is none yet. -/
theorem own_room {W w : World} {e : TypeId} (c : Nat) (cs : Array Value) (hs : cs.size = c) (hc : c ≤ maxLen) (hb : W.heap.size ≤ w.heap.size) :
    (w.alloc (.cells cs e)).ownsRow W.heap.size e 1 (.slice (some ⟨w.heap.size, 0, none⟩) 0 c) 0 [] :=
  ⟨by simp, .inr ⟨w.heap.size, c, cs, rfl, hb, heap_alloc_new w _, Nat.zero_le _, hc, by simp [hs], by simp⟩⟩
set_option maxHeartbeats 800000 in
theorem grow_any (n : Nat) (hn : n ≤ 16777216) (w : World) :
    Calls Tryd.prog 31 #[.slice none 0 0, .int .i64 n] w fun e w' => ∃ v', e = .returned v' ∧ w'.ownsRow w.heap.size 3 1 v' 0 [] ∧ Below w.heap.size w w' := by
  obtain ⟨i0, hi, hz0, hz1, hz2⟩ := info_parts infoInt4
  by_cases h0 : n = 0
  · subst h0
    go_enter Tryd.func31, Tryd.ntmps31
    go_wp2
    go_ret
    exact ⟨_, rfl, own_nil w _ _, Below.refl _ _⟩
  · have hp : 0 < n := by omega
    have hgc := grownCap_ge w n 0 3
    have hgm := grownCap_le_maxLen w n 0 3 (by unfold maxLen; omega)
    obtain ⟨c, hc⟩ : ∃ c, c = grownCap w n 0 3 := ⟨_, rfl⟩
    have hrun := Lib.hid (Lib.run_append_nil_zeros (P := Tryd.prog) w 24 3 24 3 i0 (.int .i64 0) .i64 .i64 Tryd.underlying24 Tryd.underlying3 hi hz0 n hp (by omega) (by omega) (by rw [hz2]; omega))
    rw [← hc] at hrun hgc hgm
    clear hc
    obtain ⟨cs, hcs⟩ : ∃ cs, cs = Builtin.zeroCells (Value.int .i64 0).cells n ++ Builtin.zeroCells (Value.int .i64 0).cells (c - n) := ⟨_, rfl⟩
    rw [← hcs] at hrun
    have HS : Hid (cs.size = c) := Lib.hid (by rw [hcs]; simp [Builtin.zeroCells, Value.cells]; omega)
    clear hcs h0
    unfold maxLen at hgm
    go_enter Tryd.func31, Tryd.ntmps31
    go_wp2_with (at_builtin; refine Lib.wpList_append_run _ rfl _ _ 24 3 rfl _ _ rfl rfl _ _ hrun.out ?_)
    go_ret
    exact ⟨_, rfl, own_room c cs HS.out (by unfold maxLen; omega) (Nat.le_refl _), ((Below.refl _ _).drew.alloc (Nat.le_refl _) _)⟩

theorem flat_le (ls : List (List Int)) (k : Nat) : (ls.take k).flatten.length ≤ ls.flatten.length := by
  have h := congrArg (fun l : List (List Int) => l.flatten.length) (List.take_append_drop k ls)
  simp only [List.flatten_append, List.length_append] at h
  omega
theorem flat_next (ls : List (List Int)) (k : Nat) (h : k < ls.length) : (ls.take (k + 1)).flatten = (ls.take k).flatten ++ ls.getD k [] := by
  rw [List.take_succ_eq_append_getElem h, List.flatten_append]
  simp [List.getD, h]
set_option maxHeartbeats 1600000 in
theorem concat_any (g off : Nat) (vs : List Value) (ls : List (List Int)) (hln : ls.length ≤ 1000) (hls : ls.flatten.length ≤ 16777216) (w : World) (cap : Nat) (hg : g < w.heap.size)
    (hc : ∀ j, j < ls.length → w.cell? ⟨g, off + j, none⟩ = some (vs.getD j undef) ∧ Reads w.heap.size w (vs.getD j undef) .i64 (ls.getD j [])) :
    Calls Tryd.prog 18 #[.slice (some ⟨g, off, none⟩) ls.length cap] w fun e w' => ∃ v', e = .returned v' ∧ w'.ownsRow w.heap.size 3 1 v' ls.flatten.length (ls.flatten.map (Value.int .i64)) ∧ Below w.heap.size w w' := by
  obtain ⟨i0, hi, hz0, hz1, hz2⟩ := info_parts infoInt4
  have HC := Lib.hid hc
  clear hc
  go_enter Tryd.func18, Tryd.ntmps18
  go_wp2
  go_loopw [3, 11] (fun s i wr => ∃ (k m : Nat), k ≤ ls.length ∧ i = .int .i64 k ∧ s = .int .i64 m ∧ m ≤ 16777216 ∧ Hid (m = (ls.take k).flatten.length) ∧ Below w.heap.size w wr) (fun _ i _ => ls.length - (intOf i).toNat)
  case atStart => exact ⟨0, 0, Nat.zero_le _, rfl, rfl, by omega, Lib.hid rfl, Below.refl _ _⟩
  case round =>
    obtain ⟨k, m, hk, rfl, rfl, hm, HM, hbl⟩ := hrel
    by_cases hlt : k < ls.length
    · obtain ⟨hcell, hR⟩ := HC.out k hlt
      obtain ⟨-, a1, c1, hv, -, -⟩ := hR
      rw [hv] at hcell
      have hc1 := (hbl.cell (p := ⟨g, off + k, none⟩) hg).trans hcell
      have hle := flat_le ls (k + 1)
      rw [flat_next ls k hlt, List.length_append, ← HM.out] at hle
      obtain ⟨n, hn⟩ : ∃ n, n = (ls.getD k []).length := ⟨_, rfl⟩
      rw [← hn] at hle hc1
      have HE : Hid (m + n = (ls.take (k + 1)).flatten.length) := Lib.hid (by rw [flat_next ls k hlt, List.length_append, ← HM.out, hn])
      have hmn : m + n ≤ 16777216 := by omega
      clear hcell hv hn hle
      go_wp2
      go_roundw
      case rel => exact ⟨k + 1, m + n, by omega, by go_num, by go_num, hmn, HE, hbl⟩
      case measure => simp [intOf]; omega
    · have hk' : k = ls.length := by omega
      have HF : Hid (m = ls.flatten.length) := Lib.hid (by rw [HM.out, hk', List.take_length])
      clear hk' HM
      go_wp2_with (go_at_call 31; refine (grow_any m (by omega) wr).mono ?_; rintro e w1 ⟨v1, rfl, ho1, hb1⟩; have HO1 := Lib.hid ho1; have hb2 := hbl.trans (hb1.mono hbl.size); clear ho1 hb1)
      go_loopw [6, 27] (fun o i w2 => ∃ k : Nat, k ≤ ls.length ∧ i = .int .i64 k ∧ Hid (w2.ownsRow w.heap.size 3 1 o (ls.take k).flatten.length ((ls.take k).flatten.map (Value.int .i64))) ∧ Below w.heap.size w w2) (fun _ i _ => ls.length - (intOf i).toNat)
      case atStart => exact ⟨0, Nat.zero_le _, rfl, Lib.hid (own_wide HO1.out hbl.size), hb2⟩
      case round =>
        obtain ⟨j, hj, rfl, HO, hbj⟩ := hrel
        by_cases hjt : j < ls.length
        · obtain ⟨hcell, hR⟩ := HC.out j hjt
          obtain ⟨-, a1, c1, hv, hcap, hsrc⟩ := hR.later hbj
          rw [hv] at hcell
          have hc1 := (hbj.cell (p := ⟨g, off + j, none⟩) hg).trans hcell
          have hle := flat_le ls (j + 1)
          rw [flat_next ls j hjt, List.length_append] at hle
          obtain ⟨n, hn⟩ : ∃ n, n = (ls.getD j []).length := ⟨_, rfl⟩
          rw [← hn] at hle hc1
          have HN := Lib.hid hn
          have HSRC := Lib.hid hsrc
          have HCAP := Lib.hid hcap
          obtain ⟨q, hq⟩ : ∃ q, q = (ls.take j).flatten.length := ⟨_, rfl⟩
          have HQ := Lib.hid hq
          rw [← hq] at hle
          clear hcell hv hn hsrc hcap hq
          go_wp2_with (at_builtin; refine append_reads _ rfl _ _ 24 rfl w.heap.size 3 i0 (.int .i64 0) 8 Tryd.underlying24 hi hz0 hz1 hz2 rfl _ _ _ rfl HO.out a1 n c1 .i64 (ls.getD j []) rfl HN.out HCAP.out.1 (now_src HSRC.out) (by rw [← HQ.out]; omega) (by rw [← HQ.out]; omega) (by have := hbj.size; omega) ?_; intro v2 w3 hown2 hgrow2)
          have HO2 : Hid (w3.ownsRow w.heap.size 3 1 v2 (ls.take (j + 1)).flatten.length ((ls.take (j + 1)).flatten.map (Value.int .i64))) := Lib.hid (by rw [flat_next ls j hjt, List.length_append, List.map_append, ← HN.out]; exact hown2)
          have hb3 := below_own hbj hgrow2 HO.out (Nat.le_refl _) hbj.size
          clear hown2 hgrow2
          go_roundw
          case rel => exact ⟨j + 1, by omega, by go_num, HO2, hb3⟩
          case measure => simp [intOf]; omega
        · have hj' : j = ls.length := by omega
          have HF2 : Hid (wr.ownsRow w.heap.size 3 1 _ ls.flatten.length (ls.flatten.map (Value.int .i64))) := Lib.hid (by have h9 := HO.out; rw [hj', List.take_length] at h9; exact h9)
          clear hj'
          go_wp2
          go_ret
          exact ⟨_, rfl, HF2.out, hbj⟩
/-- Three rows at hand in a block of the call's own. -/
theorem three_rows {W : World} {g : Nat} {v0 v1 v2 : Value} {l0 l1 l2 : List Int} {t : TypeId} (hb : W.heap[g]? = some (.cells #[v0, v1, v2] t (0, 0)))
    (h0 : Reads W.heap.size W v0 .i64 l0) (h1 : Reads W.heap.size W v1 .i64 l1) (h2 : Reads W.heap.size W v2 .i64 l2) :
    ∀ j, j < [l0, l1, l2].length → W.cell? ⟨g, 0 + j, none⟩ = some ([v0, v1, v2].getD j undef) ∧ Reads W.heap.size W ([v0, v1, v2].getD j undef) .i64 ([l0, l1, l2].getD j []) := fun j hj => by
  rcases j with _ | _ | _ | j
  · exact ⟨by rw [Nat.zero_add]; simp [World.cell?, hb], h0⟩
  · exact ⟨by rw [Nat.zero_add]; simp [World.cell?, hb], h1⟩
  · exact ⟨by rw [Nat.zero_add]; simp [World.cell?, hb], h2⟩
  · simp at hj; omega
theorem size_alloc (w : World) (o : Obj) : (w.alloc o).heap.size = w.heap.size + 1 := by simp
/-- The three rows that impl.KeyedHash makes. -/
theorem kh_concat (s : Int) (l : List Int) (hl : l.length ≤ 1500000) (a0 : Option Addr) (cap : Nat) (w : World) (hv : Reads w.heap.size w (.slice a0 l.length cap) .i64 l) :
    Calls Tryd.prog 18 #[.slice (some ⟨w.heap.size + 1 + 1, 0, none⟩) 3 3] (((w.alloc (.cells #[.int .i64 s] 3)).alloc (.cells #[.int .i64 s] 3)).alloc (.cells #[.slice (some ⟨w.heap.size, 0, none⟩) 1 1, .slice a0 l.length cap, .slice (some ⟨w.heap.size + 1, 0, none⟩) 1 1] 24)) fun e w' => ∃ v', e = .returned v' ∧ w'.ownsRow w.heap.size 3 1 v' (s :: l ++ [s]).length ((s :: l ++ [s]).map (Value.int .i64)) ∧ Below w.heap.size w w' := by
  have b1 : Below w.heap.size w (w.alloc (.cells #[.int .i64 s] 3)) := (Below.refl _ _).alloc (Nat.le_refl _) _
  have b2 : Below w.heap.size w ((w.alloc (.cells #[.int .i64 s] 3)).alloc (.cells #[.int .i64 s] 3)) := b1.alloc (by simp) _
  have hf : ([[s], l, [s]] : List (List Int)).flatten = s :: l ++ [s] := by simp
  obtain ⟨W2, hW2⟩ : ∃ W2, W2 = (w.alloc (.cells #[.int .i64 s] 3)).alloc (.cells #[.int .i64 s] 3) := ⟨_, rfl⟩
  have hz : W2.heap.size = w.heap.size + 1 + 1 := by rw [hW2]; simp
  have h1 : Reads W2.heap.size W2 (.slice (some ⟨w.heap.size, 0, none⟩) 1 1) .i64 [s] := by
    have := (reads_own (l := [s]) (own_one w 3 (.int .i64 s)) rfl (by simp)).now ((Below.refl _ _).alloc (Nat.le_refl _) (.cells #[.int .i64 s] 3))
    rw [hW2]; exact this
  have h3 : Reads W2.heap.size W2 (.slice (some ⟨w.heap.size + 1, 0, none⟩) 1 1) .i64 [s] := by
    have := reads_own (l := [s]) (own_one (w.alloc (.cells #[.int .i64 s] 3)) 3 (.int .i64 s)) rfl (by simp)
    rw [show (w.alloc (.cells #[.int .i64 s] 3)).heap.size = w.heap.size + 1 from size_alloc _ _] at this
    rw [hW2]; exact this
  have h2 : Reads W2.heap.size W2 (.slice a0 l.length cap) .i64 l := by rw [hW2]; exact hv.now b2
  rw [← hW2] at b2 ⊢
  rw [← hz]
  have ba : Below W2.heap.size W2 (W2.alloc (.cells #[.slice (some ⟨w.heap.size, 0, none⟩) 1 1, .slice a0 l.length cap, .slice (some ⟨w.heap.size + 1, 0, none⟩) 1 1] 24)) := (Below.refl _ _).alloc (Nat.le_refl _) _
  have hC := concat_any W2.heap.size 0 [.slice (some ⟨w.heap.size, 0, none⟩) 1 1, .slice a0 l.length cap, .slice (some ⟨w.heap.size + 1, 0, none⟩) 1 1] [[s], l, [s]] (by simp) (by rw [hf]; simp; omega) _ 3 (by simp) (three_rows (heap_alloc_new W2 _) (h1.now ba) (h2.now ba) (h3.now ba))
  rw [hf] at hC
  refine hC.mono ?_
  rintro e w' ⟨v', rfl, ho, hb⟩
  exact ⟨v', rfl, own_wide ho (by simp; omega), b2.trans ((ba.trans (hb.mono ba.size)).mono b2.size)⟩
set_option maxHeartbeats 1600000 in
theorem ikh_any (s : Int) (l : List Int) (hl : l.length ≤ 1500000) (v : Value) (w : World) (hv : Reads w.heap.size w v .i64 l) :
    Calls Tryd.prog 7 #[.int .i64 s, v] w fun e w' => e = .returned (.int .i64 (khash s l)) ∧ Below w.heap.size w w' := by
  have HV := Lib.hid hv
  obtain ⟨-, a0, cap, rfl, -, -⟩ := hv
  have HC := Lib.hid (kh_concat s l hl a0 cap w HV.out)
  go_enter Tryd.func7, Tryd.ntmps7
  go_wp2_with (first | (go_at_call 18; refine HC.out.mono ?_; rintro e w1 ⟨v1, rfl, ho, b1⟩; have HO := Lib.hid ho; clear ho) | (go_at_call 8; refine (ih_any (s :: l ++ [s]) (by simp; omega) v1 w1 (reads_own HO.out rfl (by simp; omega))).mono ?_; rintro e w3 ⟨rfl, b3⟩))
  go_ret
  exact ⟨rfl, btrans b1 b3⟩
theorem i_KeyedHash (s : Int) (v : Value) (l : List Int) (w : World) (_lo : -9223372036854775808 ≤ s) (_hi : s ≤ 9223372036854775807) (hR : Reads w.heap.size w v .i64 l) (_hB : ∀ z ∈ l, -9223372036854775808 ≤ z ∧ z ≤ 9223372036854775807) (hl : l.length ≤ 1048576) :
    Calls Tryd.prog 7 #[.int .i64 s, v] w fun e w' => ∃ r, r = khash s l ∧ e = .returned (.int .i64 r) ∧ Below w.heap.size w w' :=
  (ikh_any s l (by omega) v w hR).mono fun _ _ ⟨h1, h2⟩ => ⟨_, rfl, h1, h2⟩
end Go.Proofs.YtkofmllikneleaaDoor
