/-
  Support of the program; Support as the exact law's walk takes it.
-/
import Derived.Test.YtgjijmcedonlmaaGreatDoorCandJ
import Derived.Test.YtgjijmcedonlmaaGreatDoorBoxN
import Derived.Test.YtgjijmcedonlmaaGreatDoorGridS
namespace Go.Proofs.YtgjijmcedonlmaaGreatDoor
open Go.RowKit

theorem xfor_len (g : Int × Int × ByteArray) {slot : Nat} (hs : slot < (slG g).length) : XFor (crossS g) (slG g).length slot ((slG g).getD slot none_Slot).2.2.2.toNat := by
  intro y hy
  obtain ⟨i, j, p, r, q, rfl, -, hi, hj, hp, -, hr, -⟩ := cross_facts hy
  have h1 := (len_at hi).2
  have h2 := (len_at hj).2
  have h3 := (len_at hs).1
  exact ⟨i, j, p, r, q, rfl, hi, hj, by omega, by omega, fun e => by subst e; omega, fun e => by subst e; omega⟩
theorem meet_facts {X : List CrossV} {n slot size : Nat} (h : XFor X n slot size) {m : Nat × Nat × Nat} (hm : m ∈ meetS X slot) : m.1 < size ∧ m.2.1 < n := by
  unfold meetS at hm
  obtain ⟨x, hx, hmx⟩ := List.mem_flatMap.1 hm
  obtain ⟨i, j, p, r, q, rfl, hi, hj, -, -, hp, hr⟩ := h x hx
  rw [meetX_parts] at hmx
  rcases List.mem_append.1 hmx with h1 | h1
  · split at h1
    · rename_i e
      rw [List.mem_singleton.1 h1]
      exact ⟨hp e, hj⟩
    · cases h1
  · split at h1
    · rename_i e
      rw [List.mem_singleton.1 h1]
      exact ⟨hr e, hi⟩
    · cases h1
theorem bit_dom {D : List ByteArray} {r c : Nat} {b : UInt8} (hb : b.toNat = 97 + c) (hc : c < 26) : (lsS D (r : Int)).testBit c = domAt D r b := by
  rw [lsS_bit _ _ _ hc]
  unfold lsF domAt
  rw [decide_eq_true (show (0 : Int) ≤ r by omega), Bool.true_and]
  refine congrArg (fun f => D.any f) (funext fun z => ?_)
  unfold lsAt1
  rw [Int.toNat_natCast]
  congr 1
  rw [← hb]
  by_cases e : z.data.toList.getD r 0 = b
  · rw [decide_eq_true e, decide_eq_true (by rw [e])]
  · rw [decide_eq_false e, decide_eq_false (fun h => e (UInt8.toNat_inj.1 h))]
theorem ok_dems {l : List SlotV} {X : List CrossV} {D : List (List ByteArray)} {slot n : Nat} {x : ByteArray} (h : XFor X n slot (l.getD slot none_Slot).2.2.2.toNat) : okQ x (l.getD slot none_Slot).2.2.2 (demsOf D (meetS X slot)) = okX l X D slot x := by
  unfold okQ okX okW
  cases hw : isW x
  · rfl
  · by_cases hl : (x.size : Int) = (l.getD slot none_Slot).2.2.2
    · rw [decide_eq_true hl]
      simp only [Bool.true_and]
      unfold demsOf supM
      rw [List.all_map, Bool.eq_iff_iff, List.all_eq_true, List.all_eq_true]
      have he : ∀ m ∈ meetS X slot, demQ x (m.1, lsS (D.getD m.2.1 []) (m.2.2 : Int)) = metM D x m := fun m hm => by
        have h1 := (meet_facts h hm).1
        have hp : m.1 < x.size := by omega
        obtain ⟨h2, h3⟩ := lt_word hw hp
        unfold demQ metM
        rw [bit_dom (b := x.data.toList.getD m.1 0) (by rw [getD_byte x m.1 hp]; exact h2) h3]
      exact ⟨fun h9 m hm => by rw [← he m hm]; exact h9 m hm, fun h9 m hm => by show demQ x _ = true; rw [he m hm]; exact h9 m hm⟩
    · rw [decide_eq_false hl]
      rfl
theorem dem_ok {l : List SlotV} {X : List CrossV} {D : List (List ByteArray)} {slot n : Nat} {size : Nat} (h : XFor X n slot (l.getD slot none_Slot).2.2.2.toNat) (hl : (size : Int) = (l.getD slot none_Slot).2.2.2) : DemOk (demsOf D (meetS X slot)) size := by
  intro q hq
  unfold demsOf at hq
  obtain ⟨m, hm, rfl⟩ := List.mem_map.1 hq
  exact ⟨by have := (meet_facts h hm).1; show m.1 < size; omega, lsS_lt _ _⟩
set_option maxRecDepth 100000 in
set_option maxHeartbeats 3200000 in
theorem isup_any (r c : Int) (s : ByteArray) (D : List (List ByteArray)) (k : Int) (x : ByteArray) (hs : s.size ≤ 4194304) (hm : ∀ m ∈ D, m.length ≤ 1048576 ∧ ∀ z ∈ m, z.size ≤ 1048576) (v : Value) (w : World) (hv : ReadsN w.heap.size w v D) :
    Calls Tryz.prog 10 #[.agg #[.int .i64 r, .int .i64 c, .string s], v, .int .i64 k, .string x] w fun e w' => e = .returned (.bool (supF (r, c, s) D k x)) ∧ Below w.heap.size w w' := by
  have HV := Lib.hid hv
  obtain ⟨ad, capd, rfl⟩ := hv.form
  have HCA := Lib.hid (fun w => icand_any r c s D.length hs ad capd w)
  have HLEN := Lib.hid (slG_length (r, c, s))
  have HSU : Hid (supF (r, c, s) D k x = (decide (D.length = (slG (r, c, s)).length ∧ 0 ≤ k ∧ k < ((slG (r, c, s)).length : Int)) && okX (slG (r, c, s)) (crossS (r, c, s)) D k.toNat x)) := Lib.hid rfl
  have HXL := Lib.hid (fun h => xfor_len (r, c, s) (slot := k.toNat) h)
  have HML := Lib.hid (meetS_len (crossS (r, c, s)) (crossS (r, c, s)).length k.toNat)
  have HX36 := Lib.hid (crossS_no_more (r, c, s))
  obtain ⟨l, hl⟩ : ∃ l, l = slG (r, c, s) := ⟨_, rfl⟩
  rw [← hl] at HCA HLEN HSU HXL
  obtain ⟨X, hX⟩ : ∃ X, X = crossS (r, c, s) := ⟨_, rfl⟩
  rw [← hX] at HCA HSU HXL HML HX36
  have HM := Lib.hid hm
  clear hl hX hv hm
  have hl72 := HLEN.out
  have HBX : Hid (Below w.heap.size w (w.alloc (.cells #[.int .i64 r, .int .i64 c, .string s] 25))) := Lib.hid ((Below.refl _ _).alloc (Nat.le_refl _) _)
  by_cases h1 : D.length = l.length
  · have H1 := Lib.hid h1
    have hwl : IntKind.i64.wrap ((l.length : Int) - 1) = (l.length : Int) - 1 := by rw [IntKind.wrap_i64]; omega
    by_cases h2 : 0 ≤ k ∧ k ≤ (l.length : Int) - 1
    · obtain ⟨n, rfl⟩ : ∃ n : Nat, k = (n : Int) := ⟨k.toNat, by omega⟩
      have hn : n < l.length := by omega
      rw [Int.toNat_natCast] at HSU HXL HML
      have HXF := Lib.hid (HXL.out hn)
      have HIY := Lib.hid (fun w => inr_yes (n : Int) 0 ((l.length : Int) - 1) h2.1 h2.2 w)
      have HF : Hid (supF (r, c, s) D (n : Int) x = okX l X D n x) := Lib.hid (by rw [HSU.out, decide_eq_true (show D.length = l.length ∧ (0 : Int) ≤ n ∧ (n : Int) < (l.length : Int) from ⟨h1, by omega, by omega⟩), Bool.true_and])
      have HQ : Hid (∀ (u : Value) (W : World), ReadsV W.heap.size W u 2 (demsOf D (meetS X n)).length ((demsOf D (meetS X n)).flatMap cD) → Calls Tryz.prog 27 #[.string x, .int .i64 (l.getD n none_Slot).2.2.2, u] W fun e w' => e = .returned (.bool (okX l X D n x)) ∧ Below W.heap.size W w') := Lib.hid (fun u W h => by
        have h9 := ihs_any x (l.getD n none_Slot).2.2.2 (demsOf D (meetS X n)) (by rw [demsOf_length]; have := HML.out; rw [List.take_length] at this; have := HX36.out; omega) (fun e => dem_ok HXF.out e) u W h
        rw [ok_dems HXF.out] at h9
        exact h9)
      have HMM : Hid ((meetTo X l.length X.length).getD n [] = meetS X n) := Lib.hid (by rw [meetTo_at X _ _ hn, List.take_length])
      have HMT := Lib.hid (meetTo_length X l.length X.length)
      have HDE : Hid (∀ (sv mv : Value) (W : World), (∃ a n c, sv = .slice a n c) → ReadsL cM 3 W.heap.size W mv (meetTo X l.length X.length) → Below w.heap.size w W → Calls Tryz.prog 28 #[.agg #[sv, mv, .slice ad D.length capd], .int .i64 n] W fun e w' => ∃ v', e = .returned v' ∧ w'.ownsRow W.heap.size 121 2 v' (demsOf D (meetS X n)).length ((demsOf D (meetS X n)).flatMap cD) ∧ Below W.heap.size W w') := Lib.hid (fun sv mv W hsv hmv hW => by
        have h9 := idem_any sv (meetTo X l.length X.length) D n (by rw [HMT.out]; exact hn) (by rw [HMM.out]; have := HML.out; rw [List.take_length] at this; have := HX36.out; omega) (by rw [HMM.out]; intro m hm; rw [H1.out]; exact (meet_facts HXF.out hm).2) HM.out hsv mv (.slice ad D.length capd) W hmv (HV.out.now hW)
        rw [HMM.out, show (meetS X n).length = (demsOf D (meetS X n)).length from (demsOf_length _ _).symm] at h9
        exact h9)
      have HQL : Hid ((demsOf D (meetS X n)).length ≤ 72) := Lib.hid (by rw [demsOf_length]; have := HML.out; rw [List.take_length] at this; have := HX36.out; omega)
      have HMS : Hid (∀ m ∈ meetTo X l.length X.length, m.length ≤ 140737488355328) := Lib.hid (fun m hm => by
        unfold meetTo at hm
        obtain ⟨i, -, rfl⟩ := List.mem_map.1 hm
        have := meetS_len X X.length i
        have := HX36.out
        omega)
      obtain ⟨Q, hQ⟩ : ∃ Q, Q = demsOf D (meetS X n) := ⟨_, rfl⟩
      rw [← hQ] at HQ HDE HQL
      obtain ⟨t, ht⟩ : ∃ t, t = okX l X D n x := ⟨_, rfl⟩
      rw [← ht] at HQ HF
      have HY0 : Hid (∃ y, y = l.getD n none_Slot) := Lib.hid ⟨_, rfl⟩
      obtain ⟨y, hy⟩ := HY0.out
      rw [← hy] at HQ
      have HY := Lib.hid hy
      clear h1 h2 hQ ht hy HY0 HXL HSU
      go_enter Tryz.func10, Tryz.ntmps10
      go_wp2_with (first | (go_at_call 21; refine (HCA.out _).mono ?_; rintro e w2 ⟨sv, mv, dv, rfl, b2, hc⟩; rcases hc with ⟨hno, -⟩ | ⟨-, rfl, osl, us, omt⟩; exact absurd H1.out hno; rw [H1.out] at omt; obtain ⟨a2, c2, rfl⟩ := ownV_slice osl; obtain ⟨a3, c3, rfl⟩ := ownV_slice omt.row; have HB2 := Lib.hid (HBX.out.trans (b2.mono HBX.out.size)); have HSL := Lib.hid osl; have HRL := Lib.hid (readsL_own omt (by rw [HMT.out]; omega) HMS.out); clear osl omt b2) | (go_at_call 26; refine (HIY.out _).mono ?_; rintro e w3 ⟨rfl, rfl⟩))
      obtain ⟨bs, rfl, -, -, -, p3⟩ := slot_cells HSL.out rfl n hn
      rw [← HY.out] at p3
      have hbs := World.block_lt_of_cell? w2 _ p3
      obtain ⟨y0, y1, y2, y3⟩ := y
      simp only at p3 HQ
      obtain ⟨WB, hWB⟩ : ∃ WB, WB = w2.alloc (.cells #[.slice (some ⟨bs, 0, none⟩) l.length c2, .slice a3 (meetTo X l.length X.length).length c3, .slice ad D.length capd] 50) := ⟨_, rfl⟩
      have HA : Hid (Below w2.heap.size w2 WB) := Lib.hid (by rw [hWB]; exact (Below.refl _ _).alloc (Nat.le_refl _) _)
      have hwa : WB.heap.size = w2.heap.size + 1 := by rw [hWB]; simp
      have HS : Hid (∀ W, Below WB.heap.size WB W → ((W.cell? ⟨w2.heap.size, 0, none⟩ = some (.slice (some ⟨bs, 0, none⟩) l.length c2) ∧ W.cell? ⟨w2.heap.size, 1, none⟩ = some (.slice a3 (meetTo X l.length X.length).length c3) ∧ W.cell? ⟨w2.heap.size, 2, none⟩ = some (.slice ad D.length capd)) ∧ W.cell? ⟨bs, n * 4 + 3, none⟩ = some (.int .i64 y3))) := Lib.hid (fun W h => ⟨⟨(h.cell (p := ⟨w2.heap.size, 0, none⟩) (by show w2.heap.size < _; omega)).trans (by rw [hWB]; simp), (h.cell (p := ⟨w2.heap.size, 1, none⟩) (by show w2.heap.size < _; omega)).trans (by rw [hWB]; simp), (h.cell (p := ⟨w2.heap.size, 2, none⟩) (by show w2.heap.size < _; omega)).trans (by rw [hWB]; simp)⟩, ((HA.out.trans (h.mono HA.out.size)).cell (p := ⟨bs, n * 4 + 3, none⟩) hbs).trans p3⟩)
      have HRB := Lib.hid (HRL.out.now HA.out)
      have HBB := Lib.hid (HB2.out.trans (HA.out.mono HB2.out.size))
      rw [← hWB]
      clear hWB p3 hwa hbs
      have hbn : Below WB.heap.size WB WB := Below.refl _ _
      go_region_held3 (fun W => ((W.cell? ⟨w2.heap.size, 0, none⟩ = some (.slice (some ⟨bs, 0, none⟩) l.length c2) ∧ W.cell? ⟨w2.heap.size, 1, none⟩ = some (.slice a3 (meetTo X l.length X.length).length c3) ∧ W.cell? ⟨w2.heap.size, 2, none⟩ = some (.slice ad D.length capd)) ∧ W.cell? ⟨bs, n * 4 + 3, none⟩ = some (.int .i64 y3))) (first | exact HS.out _ hbn | exact HS.out _ hbn.drew) (first | (go_at_call 28; refine Calls.mono (HDE.out _ _ _ ⟨_, _, _, rfl⟩ (by first | exact HRB.out.now hbn | exact HRB.out.now hbn.drew) (by first | exact HBB.out.trans (hbn.mono HBB.out.size) | exact HBB.out.trans (hbn.drew.mono HBB.out.size))) ?_; rintro e w5 ⟨v5, rfl, o5, b5⟩; obtain ⟨a5, c5, rfl⟩ := ownV_slice o5; have hbn : Below WB.heap.size WB w5 := (by first | exact hbn.trans (b5.mono hbn.size) | exact hbn.drew.trans (b5.mono hbn.size)); have HR5 := Lib.hid (readsV_own o5 (by have := HQL.out; omega)); clear o5 b5) | (go_at_call 27; refine Calls.mono (HQ.out _ _ HR5.out) ?_; rintro e w6 ⟨rfl, b6⟩; have hbn : Below WB.heap.size WB w6 := (by first | exact hbn.trans (b6.mono hbn.size) | exact hbn.drew.trans (b6.mono hbn.size)); clear b6))
      go_wp2_with fail
      go_ret
      exact ⟨by rw [HF.out]; rfl, HBB.out.trans (hbn.mono HBB.out.size)⟩
    · have HF : Hid (supF (r, c, s) D k x = false) := Lib.hid (by rw [HSU.out, decide_eq_false (fun h => h2 ⟨h.2.1, by omega⟩)]; rfl)
      have HIN := Lib.hid (fun w => inr_no k 0 ((l.length : Int) - 1) h2 w)
      clear h1 h2 HXL HSU
      go_enter Tryz.func10, Tryz.ntmps10
      go_wp2_with (first | (go_at_call 21; refine (HCA.out _).mono ?_; rintro e w2 ⟨sv, mv, dv, rfl, b2, hc⟩; rcases hc with ⟨hno, -⟩ | ⟨-, rfl, osl, us, omt⟩; exact absurd H1.out hno; obtain ⟨a2, c2, rfl⟩ := ownV_slice osl; obtain ⟨a3, c3, rfl⟩ := ownV_slice omt.row; have HB2 := Lib.hid (HBX.out.trans (b2.mono HBX.out.size)); have HB3 := Lib.hid (HB2.out.alloc HB2.out.size (.cells #[.slice a2 l.length c2, .slice a3 (meetTo X D.length X.length).length c3, .slice ad D.length capd] 50)); clear osl omt b2) | (go_at_call 26; refine (HIN.out _).mono ?_; rintro e w3 ⟨rfl, rfl⟩))
      go_ret
      exact ⟨by rw [HF.out]; rfl, HB3.out⟩
  · have H1 := Lib.hid h1
    have HF : Hid (supF (r, c, s) D k x = false) := Lib.hid (by rw [HSU.out, decide_eq_false (fun h => h1 h.1)]; rfl)
    have HIN := Lib.hid (fun w => inr_any k 0 (-1) w)
    rw [show decide (0 ≤ k ∧ k ≤ -1) = false from decide_eq_false (by omega)] at HIN
    clear h1 HXL HSU
    go_enter Tryz.func10, Tryz.ntmps10
    go_wp2_with (first | (go_at_call 21; refine (HCA.out _).mono ?_; rintro e w2 ⟨sv, mv, dv, rfl, b2, hc⟩; rcases hc with ⟨-, rfl, rfl, rfl⟩ | ⟨hno, -⟩; rotate_left; exact absurd hno H1.out; have HB2 := Lib.hid (HBX.out.trans (b2.mono HBX.out.size)); have HB3 := Lib.hid (HB2.out.alloc HB2.out.size (.cells #[.slice none 0 0, .slice none 0 0, .slice none 0 0] 50)); clear b2) | (go_at_call 26; refine (HIN.out _).mono ?_; rintro e w3 ⟨rfl, rfl⟩))
    go_ret
    exact ⟨by rw [HF.out]; rfl, HB3.out⟩
theorem i_Support (r c : Int) (s : ByteArray) (v : Value) (l : List (List ByteArray)) (k : Int) (x : ByteArray) (w : World) (_hK : ok_Grid (r, c, s)) (hs : s.size ≤ 1048576) (hv : ReadsN w.heap.size w v l) (_hl : l.length ≤ 1048576) (hz : ∀ m ∈ l, m.length ≤ 1048576 ∧ ∀ z ∈ m, z.size ≤ 1048576) (_lo : -9223372036854775808 ≤ k) (_hi : k ≤ 9223372036854775807) (_hx : x.size ≤ 1048576) :
    Calls Tryz.prog 10 #[.agg #[.int .i64 r, .int .i64 c, .string s], v, .int .i64 k, .string x] w fun e w' => ∃ b, b = supF (r, c, s) l k x ∧ e = .returned (.bool b) ∧ Below w.heap.size w w' :=
  (isup_any r c s l k x (by omega) hz v w hv).mono fun _ _ ⟨h1, h2⟩ => ⟨_, rfl, h1, h2⟩
theorem u_Support {g : Int × Int × ByteArray} {l : List (List ByteArray)} {k : Int} {x : ByteArray} {b b' : Bool} (h : b = supF g l k x) (h' : b' = supF g l k x) : b = b' := h.trans h'.symm
end Go.Proofs.YtgjijmcedonlmaaGreatDoor
