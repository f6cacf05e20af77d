/-
  Contracts of the program's key stream (a closure), of both texts' crossed, of impl.Encrypt and impl.Decrypt.
-/
import Derived.Test.YtkofmllikneleaaConcat
import Derived.Deep.RegionHeld3
namespace Go.Proofs.Ytkofmllikneleaa
open Go.RowKit

theorem st_below_row {a w : World} (h : Below a.heap.size a w) (row : Option Nat) : a.grownBy w row := ⟨h.os, h.tape, h.output, h.size, fun i hi _ => h.block i hi⟩
theorem st_set_row {a w : World} {g : Nat} (h : a.grownBy w (some g)) (u : Value) : a.grownBy (w.setCell ⟨g, 0, none⟩ u) (some g) :=
  ⟨h.os, h.tape, h.output, by simpa [World.setCell] using h.size, fun i hi hne => (Below.heap_setCell w ⟨g, 0, none⟩ u i (fun e => hne (by rw [e]))).trans (h.block i hi hne)⟩
set_option maxHeartbeats 800000 in
/-- The next byte of the key stream: kb holds the key, ib the index. -/
theorem next_any (s : Int) (k : Nat) (hk : k ≤ 2097152) (kb ib : Nat) (w : World) (hK : w.heap[kb]? = some (.cells #[.int .i64 s] 3 (0, 0))) (hI : w.heap[ib]? = some (.cells #[.int .i64 k] 3 (0, 0))) :
    Calls Try.prog 48 #[.pointer (some ⟨kb, 0, none⟩), .pointer (some ⟨ib, 0, none⟩)] w fun e w' => e = .returned (.int .u8 (khash s [(k : Int)] % 256)) ∧ w.grownBy w' (some ib) ∧ Hid (w'.heap[ib]? = some (.cells #[.int .i64 ((k + 1 : Nat) : Int)] 3 (0, 0))) := by
  have c1 := cell_of_one hK
  have c2 := cell_of_one hI
  have hkh := khash_range s [(k : Int)]
  obtain ⟨H, hH⟩ : ∃ H, H = khash s [(k : Int)] := ⟨_, rfl⟩
  rw [← hH] at hkh ⊢
  have HKH : Hid (Calls Try.prog 20 #[.int .i64 s, .slice (some ⟨w.heap.size, 0, none⟩) 1 1] (w.alloc (.cells #[.int .i64 k] 3)) fun e w' => e = .returned (.int .i64 H) ∧ Below w.heap.size w w') := Lib.hid (by
    have hd : Below w.heap.size w (w.alloc (.cells #[.int .i64 k] 3)) := (Below.refl _ _).alloc (Nat.le_refl _) _
    refine (ikh_any s [(k : Int)] (by simp) _ _ (reads_own (l := [(k : Int)]) (own_one w _ _) rfl (by simp))).mono ?_
    rintro e w7 ⟨rfl, b7⟩
    exact ⟨by rw [hH], btrans hd (b7.mono (by simp))⟩)
  have HI := Lib.hid hI
  clear hH hI hK
  go_enter Try.func48, Try.ntmps48
  go_wp2_with (go_at_call 20; refine HKH.out.mono ?_; rintro e w1 ⟨rfl, b1⟩; have HI1 : Hid (w1.heap[ib]? = some (.cells #[.int .i64 k] 3 (0, 0))) := Lib.hid ((b1.block ib (lt_of_block HI.out)).trans HI.out); have d2 := cell_of_one HI1.out; have f2 := free_of_one HI1.out)
  go_ret
  exact ⟨rfl, st_set_row (st_below_row b1 _) _, Lib.hid (one_setCell HI1.out)⟩
theorem infoU8d : (Try.prog.info? 5).map (fun i => (i.zero, i.size, i.bytes)) = some (some (.int .u8 0), 1, 1) := by kernel_rfl
theorem st_grown_none {w w' : World} (h : w.grownBy w' none) (r : Option Nat) : w.grownBy w' r := ⟨h.os, h.tape, h.output, h.size, fun i hi _ => h.block i hi (by simp)⟩
theorem st_grown_set {a w : World} {r : Option Nat} (h : a.grownBy w r) {g : Nat} (hg : a.heap.size ≤ g) (j : Nat) (u : Value) : a.grownBy (w.setCell ⟨g, j, none⟩ u) r :=
  ⟨h.os, h.tape, h.output, by simpa [World.setCell] using h.size, fun i hi hne => (Below.heap_setCell w ⟨g, j, none⟩ u i (fun e => by simp at e; omega)).trans (h.block i hi hne)⟩
set_option maxHeartbeats 800000 in
theorem crp_any (s : Int) (l : List Int) (hl : l.length ≤ 2097152) (hB : ∀ z ∈ l, 0 ≤ z ∧ z ≤ 255) (v : Value) (kb ib : Nat) (w : World) (hv : Reads w.heap.size w v .u8 l) (hvb : ∀ b off n c, v = .slice (some ⟨b, off, none⟩) n c → 0 < n → b ≠ ib)
    (hK : w.heap[kb]? = some (.cells #[.int .i64 s] 3 (0, 0))) (hI : w.heap[ib]? = some (.cells #[.int .i64 0] 3 (0, 0))) (hne : kb ≠ ib) :
    Calls Try.prog 39 #[v, .func (.func 48) #[] #[.pointer (some ⟨kb, 0, none⟩), .pointer (some ⟨ib, 0, none⟩)]] w fun e w' => ∃ v', e = .returned (.iface 50 v') ∧ w'.ownsRow w.heap.size 5 1 v' l.length ((encL s l).map (Value.int .u8)) ∧ w.grownBy w' (some ib) := by
  obtain ⟨i0, hi, hz0, hz1, hz2⟩ := info_parts infoU8d
  obtain ⟨-, a0, cap, rfl, -, hc⟩ := hv
  have HC := Lib.hid hc
  have HVB := Lib.hid hvb
  have HBY := Lib.hid hB
  have HE := Lib.hid (copied_zero .u8 (encL s l))
  have HL := Lib.hid (encL_length s l)
  have HK := Lib.hid hK
  have HI := Lib.hid hI
  have HNE := Lib.hid hne
  clear hc hvb hB hK hI hne
  go_enter Try.func39, Try.ntmps39
  go_wp2_with (at_make; refine wpList_make_full _ rfl _ _ 50 rfl w.heap.size 5 i0 (.int .u8 0) 1 Try.underlying50 hi hz0 hz1 .i64 .i64 _ _ l.length rfl rfl rfl rfl (by rw [hz2]; omega) (by unfold maxLen; omega) (Nat.le_refl _) ?_; intro w1 hown hgrow)
  go_loopw [13] (fun i wr => ∃ k : Nat, k ≤ l.length ∧ i = .int .i64 k ∧ Hid (wr.ownsRow w.heap.size 5 1 (.slice (some ⟨w.heap.size, 0, none⟩) l.length l.length) l.length (copied .u8 (encL s l) k)) ∧ Hid (wr.heap[ib]? = some (.cells #[.int .i64 k] 3 (0, 0))) ∧ w.grownBy wr (some ib)) (fun i _ => l.length - (intOf i).toNat)
  case atStart => exact ⟨0, Nat.zero_le _, rfl, Lib.hid (by rw [← HE.out, HL.out]; exact hown), Lib.hid ((hgrow.block ib (lt_of_block HI.out) (by simp)).trans HI.out), st_grown_none hgrow _⟩
  case round =>
    obtain ⟨k, hk, rfl, HO, HI1, hg⟩ := hrel
    by_cases hlt : k < l.length
    · obtain ⟨b, off, rfl, hb, hcell⟩ := HC.out k hlt
      obtain ⟨z, hz⟩ : ∃ z, z = l.getD k 0 := ⟨_, rfl⟩
      rw [← hz] at hcell
      have hbi := HVB.out b off _ _ rfl (by omega)
      have hc1 := hg.cell hcell (fun e => hbi (by injection e))
      have hz0' : 0 ≤ z ∧ z ≤ 255 := HBY.out z (by rw [hz]; simp [List.getD, hlt])
      have HZ := Lib.hid hz
      have HKR : Hid (wr.heap[kb]? = some (.cells #[.int .i64 s] 3 (0, 0))) := Lib.hid ((hg.block kb (lt_of_block HK.out) (fun e => HNE.out (by injection e))).trans HK.out)
      clear hcell hz hbi
      go_wp2_with (go_at_call 48; refine (next_any s k (by omega) kb ib wr HKR.out HI1.out).mono ?_; rintro e w2 ⟨rfl, hg2, HI2⟩; have HO2 : Hid (w2.ownsRow w.heap.size 5 1 (.slice (some ⟨w.heap.size, 0, none⟩) l.length l.length) l.length (copied .u8 (encL s l) k)) := Lib.hid (HO.out.kept hg2 (.inr (by simp [Value.ownBlock]; have := lt_of_block HI.out; omega))); have hc2 := (HO2.out.cellAt k (by omega)).trans (copied_at .u8 (encL s l) k (by rw [HL.out]; exact hlt)); have hf2 := HO2.out.frozenAt k)
      go_roundw
      case rel =>
        have hib := lt_of_block HI.out
        have hv2 : (encL s l).getD k 0 = (z + khash s [(k : Int)]) % 256 := by
          rw [HZ.out]
          simp only [encL, List.getD, List.getElem?_mapIdx, List.getElem?_eq_getElem hlt, Option.map_some, Option.getD_some, encAt]
          omega
        refine ⟨k + 1, by omega, by go_num, Lib.hid ?_, Lib.hid ((Below.heap_setCell _ ⟨w.heap.size, k, none⟩ _ ib (fun e => by simp at e; omega)).trans HI2.out), st_grown_set (grown_trans hg hg2) (Nat.le_refl _) _ _⟩
        have hst := (HO2.out.stored k (.int .u8 ((z + khash s [(k : Int)]) % 256))).1
        rw [← hv2, copied_set .u8 (encL s l) k (by rw [HL.out]; exact hlt)] at hst
        rw [hv2] at hst
        exact hst
      case measure => simp [intOf]; omega
    · have hk' : k = l.length := by omega
      have HF : Hid (wr.ownsRow w.heap.size 5 1 (.slice (some ⟨w.heap.size, 0, none⟩) l.length l.length) l.length ((encL s l).map (Value.int .u8))) := Lib.hid (by have h9 := HO.out; rw [hk', ← HL.out, copied_full, HL.out] at h9; exact h9)
      clear hk'
      go_wp2_with fail
      go_ret
      exact ⟨_, rfl, HF.out, hg⟩
set_option maxHeartbeats 800000 in
theorem crs_any (s : Int) (l : List Int) (hl : l.length ≤ 2097152) (hB : ∀ z ∈ l, 0 ≤ z ∧ z ≤ 255) (v : Value) (kb ib : Nat) (w : World) (hv : Reads w.heap.size w v .u8 l) (hvb : ∀ b off n c, v = .slice (some ⟨b, off, none⟩) n c → 0 < n → b ≠ ib)
    (hK : w.heap[kb]? = some (.cells #[.int .i64 s] 3 (0, 0))) (hI : w.heap[ib]? = some (.cells #[.int .i64 0] 3 (0, 0))) (hne : kb ≠ ib) :
    Calls Try.prog 37 #[v, .func (.func 48) #[] #[.pointer (some ⟨kb, 0, none⟩), .pointer (some ⟨ib, 0, none⟩)]] w fun e w' => ∃ v', e = .returned (.iface 46 v') ∧ w'.ownsRow w.heap.size 5 1 v' l.length ((decL s l).map (Value.int .u8)) ∧ w.grownBy w' (some ib) := by
  obtain ⟨i0, hi, hz0, hz1, hz2⟩ := info_parts infoU8d
  obtain ⟨-, a0, cap, rfl, -, hc⟩ := hv
  have HC := Lib.hid hc
  have HVB := Lib.hid hvb
  have HBY := Lib.hid hB
  have HE := Lib.hid (copied_zero .u8 (decL s l))
  have HL := Lib.hid (decL_length s l)
  have HK := Lib.hid hK
  have HI := Lib.hid hI
  have HNE := Lib.hid hne
  clear hc hvb hB hK hI hne
  go_enter Try.func37, Try.ntmps37
  go_wp2_with (at_make; refine wpList_make_full _ rfl _ _ 46 rfl w.heap.size 5 i0 (.int .u8 0) 1 Try.underlying46 hi hz0 hz1 .i64 .i64 _ _ l.length rfl rfl rfl rfl (by rw [hz2]; omega) (by unfold maxLen; omega) (Nat.le_refl _) ?_; intro w1 hown hgrow)
  go_loopw [13] (fun i wr => ∃ k : Nat, k ≤ l.length ∧ i = .int .i64 k ∧ Hid (wr.ownsRow w.heap.size 5 1 (.slice (some ⟨w.heap.size, 0, none⟩) l.length l.length) l.length (copied .u8 (decL s l) k)) ∧ Hid (wr.heap[ib]? = some (.cells #[.int .i64 k] 3 (0, 0))) ∧ w.grownBy wr (some ib)) (fun i _ => l.length - (intOf i).toNat)
  case atStart => exact ⟨0, Nat.zero_le _, rfl, Lib.hid (by rw [← HE.out, HL.out]; exact hown), Lib.hid ((hgrow.block ib (lt_of_block HI.out) (by simp)).trans HI.out), st_grown_none hgrow _⟩
  case round =>
    obtain ⟨k, hk, rfl, HO, HI1, hg⟩ := hrel
    by_cases hlt : k < l.length
    · obtain ⟨b, off, rfl, hb, hcell⟩ := HC.out k hlt
      obtain ⟨z, hz⟩ : ∃ z, z = l.getD k 0 := ⟨_, rfl⟩
      rw [← hz] at hcell
      have hbi := HVB.out b off _ _ rfl (by omega)
      have hc1 := hg.cell hcell (fun e => hbi (by injection e))
      have hz0' : 0 ≤ z ∧ z ≤ 255 := HBY.out z (by rw [hz]; simp [List.getD, hlt])
      have HZ := Lib.hid hz
      have HKR : Hid (wr.heap[kb]? = some (.cells #[.int .i64 s] 3 (0, 0))) := Lib.hid ((hg.block kb (lt_of_block HK.out) (fun e => HNE.out (by injection e))).trans HK.out)
      clear hcell hz hbi
      go_wp2_with (go_at_call 48; refine (next_any s k (by omega) kb ib wr HKR.out HI1.out).mono ?_; rintro e w2 ⟨rfl, hg2, HI2⟩; have HO2 : Hid (w2.ownsRow w.heap.size 5 1 (.slice (some ⟨w.heap.size, 0, none⟩) l.length l.length) l.length (copied .u8 (decL s l) k)) := Lib.hid (HO.out.kept hg2 (.inr (by simp [Value.ownBlock]; have := lt_of_block HI.out; omega))); have hc2 := (HO2.out.cellAt k (by omega)).trans (copied_at .u8 (decL s l) k (by rw [HL.out]; exact hlt)); have hf2 := HO2.out.frozenAt k)
      go_roundw
      case rel =>
        have hib := lt_of_block HI.out
        have hv2 : (decL s l).getD k 0 = (z - khash s [(k : Int)]) % 256 := by
          rw [HZ.out]
          simp only [decL, List.getD, List.getElem?_mapIdx, List.getElem?_eq_getElem hlt, Option.map_some, Option.getD_some, decAt]
          omega
        refine ⟨k + 1, by omega, by go_num, Lib.hid ?_, Lib.hid ((Below.heap_setCell _ ⟨w.heap.size, k, none⟩ _ ib (fun e => by simp at e; omega)).trans HI2.out), st_grown_set (grown_trans hg hg2) (Nat.le_refl _) _ _⟩
        have hst := (HO2.out.stored k (.int .u8 ((z - khash s [(k : Int)]) % 256))).1
        rw [← hv2, copied_set .u8 (decL s l) k (by rw [HL.out]; exact hlt)] at hst
        rw [hv2] at hst
        exact hst
      case measure => simp [intOf]; omega
    · have hk' : k = l.length := by omega
      have HF : Hid (wr.ownsRow w.heap.size 5 1 (.slice (some ⟨w.heap.size, 0, none⟩) l.length l.length) l.length ((decL s l).map (Value.int .u8))) := Lib.hid (by have h9 := HO.out; rw [hk', ← HL.out, copied_full, HL.out] at h9; exact h9)
      clear hk'
      go_wp2_with fail
      go_ret
      exact ⟨_, rfl, HF.out, hg⟩

theorem ks_any (s : Int) (w : World) :
    Calls Try.prog 38 #[.int .i64 s] w fun e w' => e = .returned (.func (.func 48) #[] #[.pointer (some ⟨w.heap.size, 0, none⟩), .pointer (some ⟨w.heap.size + 1, 0, none⟩)]) ∧ (w.alloc (.cells #[.int .i64 s] 3)).alloc (.cells #[.int .i64 0] 3) = w' := by
  go_enter Try.func38, Try.ntmps38
  go_wp2
  go_ret
  exact ⟨rfl, rfl⟩
theorem is_secret (v : Value) (w : World) : (Instr.typeAssert (.iface 50 v) 49 50 true).run Try.prog w = .ok (.tuple #[v, .bool true]) w := by kernel_rfl
theorem is_plain (v : Value) (w : World) : (Instr.typeAssert (.iface 46 v) 49 46 true).run Try.prog w = .ok (.tuple #[v, .bool true]) w := by kernel_rfl
theorem ienc_any (s : Int) (l : List Int) (hl : l.length ≤ 2097152) (hB : ∀ z ∈ l, 0 ≤ z ∧ z ≤ 255) (v : Value) (w : World) (hv : Reads w.heap.size w v .u8 l) :
    Calls Try.prog 14 #[.int .i64 s, v] w fun e w' => ∃ v', e = .returned v' ∧ w'.ownsRow w.heap.size 5 1 v' l.length ((encL s l).map (Value.int .u8)) ∧ Below w.heap.size w w' := by
  have HC : Hid (Calls Try.prog 39 #[v, .func (.func 48) #[] #[.pointer (some ⟨w.heap.size, 0, none⟩), .pointer (some ⟨w.heap.size + 1, 0, none⟩)]] ((w.alloc (.cells #[.int .i64 s] 3)).alloc (.cells #[.int .i64 0] 3)) fun e w' => ∃ v', e = .returned (.iface 50 v') ∧ w'.ownsRow w.heap.size 5 1 v' l.length ((encL s l).map (Value.int .u8)) ∧ Below w.heap.size w w') := Lib.hid (by
    have b1 : Below w.heap.size w (w.alloc (.cells #[.int .i64 s] 3)) := (Below.refl _ _).alloc (Nat.le_refl _) _
    have b2 : Below w.heap.size w ((w.alloc (.cells #[.int .i64 s] 3)).alloc (.cells #[.int .i64 0] 3)) := b1.alloc (by simp) _
    have hi := heap_alloc_new (w.alloc (.cells #[.int .i64 s] 3)) (.cells #[.int .i64 0] 3)
    rw [show (w.alloc (.cells #[.int .i64 s] 3)).heap.size = w.heap.size + 1 from size_alloc _ _] at hi
    have hk := (Below.heap_alloc (w.alloc (.cells #[.int .i64 s] 3)) (.cells #[.int .i64 0] 3) w.heap.size (by simp)).trans (heap_alloc_new w (.cells #[.int .i64 s] 3))
    refine (crp_any s l hl hB v w.heap.size (w.heap.size + 1) _ (hv.now b2) ?_ hk hi (by omega)).mono ?_
    · rintro b off n c rfl hn
      obtain ⟨-, a0, cap, e, -, h⟩ := hv
      cases e
      obtain ⟨b', off', e1, h2, -⟩ := h 0 hn
      cases e1
      omega
    · rintro e w' ⟨v', rfl, ho, hg⟩
      exact ⟨v', rfl, own_wide ho (by simp; omega), b2.grown hg (by simp; omega) (fun k hk => by cases hk; omega)⟩)
  obtain ⟨-, a0, cap, rfl, -, -⟩ := hv
  clear hB
  have hta := is_secret
  go_enter Try.func14, Try.ntmps14
  go_wp2_with (first | (go_at_call 38; refine (ks_any s _).mono ?_; rintro e w1 ⟨rfl, rfl⟩) | (go_at_call 39; refine HC.out.mono ?_; rintro e w2 ⟨v2, rfl, ho, hb⟩; have HO := Lib.hid ho; clear ho))
  go_ret
  exact ⟨_, rfl, HO.out, hb⟩
theorem idec_any (s : Int) (l : List Int) (hl : l.length ≤ 2097152) (hB : ∀ z ∈ l, 0 ≤ z ∧ z ≤ 255) (v : Value) (w : World) (hv : Reads w.heap.size w v .u8 l) :
    Calls Try.prog 13 #[.int .i64 s, v] w fun e w' => ∃ v', e = .returned v' ∧ w'.ownsRow w.heap.size 5 1 v' l.length ((decL s l).map (Value.int .u8)) ∧ Below w.heap.size w w' := by
  have HC : Hid (Calls Try.prog 37 #[v, .func (.func 48) #[] #[.pointer (some ⟨w.heap.size, 0, none⟩), .pointer (some ⟨w.heap.size + 1, 0, none⟩)]] ((w.alloc (.cells #[.int .i64 s] 3)).alloc (.cells #[.int .i64 0] 3)) fun e w' => ∃ v', e = .returned (.iface 46 v') ∧ w'.ownsRow w.heap.size 5 1 v' l.length ((decL s l).map (Value.int .u8)) ∧ Below w.heap.size w w') := Lib.hid (by
    have b1 : Below w.heap.size w (w.alloc (.cells #[.int .i64 s] 3)) := (Below.refl _ _).alloc (Nat.le_refl _) _
    have b2 : Below w.heap.size w ((w.alloc (.cells #[.int .i64 s] 3)).alloc (.cells #[.int .i64 0] 3)) := b1.alloc (by simp) _
    have hi := heap_alloc_new (w.alloc (.cells #[.int .i64 s] 3)) (.cells #[.int .i64 0] 3)
    rw [show (w.alloc (.cells #[.int .i64 s] 3)).heap.size = w.heap.size + 1 from size_alloc _ _] at hi
    have hk := (Below.heap_alloc (w.alloc (.cells #[.int .i64 s] 3)) (.cells #[.int .i64 0] 3) w.heap.size (by simp)).trans (heap_alloc_new w (.cells #[.int .i64 s] 3))
    refine (crs_any s l hl hB v w.heap.size (w.heap.size + 1) _ (hv.now b2) ?_ hk hi (by omega)).mono ?_
    · rintro b off n c rfl hn
      obtain ⟨-, a0, cap, e, -, h⟩ := hv
      cases e
      obtain ⟨b', off', e1, h2, -⟩ := h 0 hn
      cases e1
      omega
    · rintro e w' ⟨v', rfl, ho, hg⟩
      exact ⟨v', rfl, own_wide ho (by simp; omega), b2.grown hg (by simp; omega) (fun k hk => by cases hk; omega)⟩)
  obtain ⟨-, a0, cap, rfl, -, -⟩ := hv
  clear hB
  have hta := is_plain
  go_enter Try.func13, Try.ntmps13
  go_wp2_with (first | (go_at_call 38; refine (ks_any s _).mono ?_; rintro e w1 ⟨rfl, rfl⟩) | (go_at_call 37; refine HC.out.mono ?_; rintro e w2 ⟨v2, rfl, ho, hb⟩; have HO := Lib.hid ho; clear ho))
  go_ret
  exact ⟨_, rfl, HO.out, hb⟩
theorem i_Encrypt (s : Int) (v : Value) (l : List Int) (w : World) (_lo : -9223372036854775808 ≤ s) (_hi : s ≤ 9223372036854775807) (hR : Reads w.heap.size w v .u8 l) (hB : ∀ z ∈ l, 0 ≤ z ∧ z ≤ 255) (hl : l.length ≤ 1048576) :
    Calls Try.prog 14 #[.int .i64 s, v] w fun e w' => ∃ L v', L = encL s l ∧ L.length ≤ 16777216 ∧ e = .returned v' ∧ w'.ownsRow w.heap.size 5 1 v' L.length (L.map (Value.int .u8)) ∧ Below w.heap.size w w' :=
  (ienc_any s l (by omega) hB v w hR).mono fun _ _ ⟨v', h1, h2, h3⟩ => ⟨_, v', rfl, by rw [encL_length]; omega, h1, by rw [encL_length]; exact h2, h3⟩
theorem i_Decrypt (s : Int) (v : Value) (l : List Int) (w : World) (_lo : -9223372036854775808 ≤ s) (_hi : s ≤ 9223372036854775807) (hR : Reads w.heap.size w v .u8 l) (hB : ∀ z ∈ l, 0 ≤ z ∧ z ≤ 255) (hl : l.length ≤ 1048576) :
    Calls Try.prog 13 #[.int .i64 s, v] w fun e w' => ∃ L v', L = decL s l ∧ L.length ≤ 16777216 ∧ e = .returned v' ∧ w'.ownsRow w.heap.size 5 1 v' L.length (L.map (Value.int .u8)) ∧ Below w.heap.size w w' :=
  (idec_any s l (by omega) hB v w hR).mono fun _ _ ⟨v', h1, h2, h3⟩ => ⟨_, v', rfl, by rw [decL_length]; omega, h1, by rw [decL_length]; exact h2, h3⟩
end Go.Proofs.Ytkofmllikneleaa
