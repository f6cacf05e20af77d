/-
  Contracts of the law's own helpers: within, sameWords; the draws DrawPrune, DrawForced, DrawIsDead.
-/
import Derived.Test.YtgjijmcedonlmaaGreatDoorDrawDomA
import Derived.Test.YtgjijmcedonlmaaGreatDoorPrunedPure
import Derived.BigQuiet
import Derived.IntWalk
namespace Go.Proofs.YtgjijmcedonlmaaGreatDoor
open Go.RowKit

set_option maxHeartbeats 1600000 in
theorem lwith_any (a b : List ByteArray) (ha : a.length ≤ 16777216) (hb : b.length ≤ 16777216) (h : ∀ z ∈ a, hasW b z = true) (u v : Value) (w : World) (hu : ReadsS w.heap.size w u a) (hv : ReadsS w.heap.size w v b) :
    Calls Tryz.prog 9 #[u, v] w fun e w' => e = .returned (.bool true) ∧ w = w' := by
  have HHW := Lib.hid (fun x => ihas_any b x hb v w hv)
  have HH := Lib.hid h
  obtain ⟨-, a0, cap, rfl, -, hc⟩ := hu.cells
  obtain ⟨-, b0, capb, rfl, -, -⟩ := hv.cells
  have HC := Lib.hid hc
  clear hc hu hv h
  go_enter Tryz.func9, Tryz.ntmps9
  go_wp2
  go_loop [5] (fun i => ∃ k : Nat, k ≤ a.length ∧ i = .int .i64 (k : Int)) (fun i => a.length - (intOf i).toNat)
  case atStart => exact ⟨0, Nat.zero_le _, rfl⟩
  case round =>
    obtain ⟨k, hk, rfl⟩ := hrel
    by_cases hlt : k < a.length
    · have hd : decide ((k : Int) < (a.length : Int)) = true := decide_eq_true (by omega)
      obtain ⟨b1, off, rfl, hb1, q0⟩ := HC.out k hlt
      have HX := Lib.hid (HH.out _ (getD_mem a k ⟨#[]⟩ hlt))
      obtain ⟨x, hx⟩ : ∃ x, x = a.getD k ⟨#[]⟩ := ⟨_, rfl⟩
      rw [← hx] at q0 HX
      clear hx
      have HHX := Lib.hid (HHW.out x)
      rw [HX.out] at HHX
      go_wp2_with (go_at_call 25; refine HHX.out.mono ?_; rintro e w1 ⟨rfl, rfl⟩)
      go_round
      case rel => exact ⟨k + 1, by omega, by go_num⟩
      case measure => simp [intOf]; omega
    · have hd : decide ((k : Int) < (a.length : Int)) = false := decide_eq_false (by omega)
      go_wp2
      go_ret
      first | exact ⟨rfl, rfl⟩ | rfl
set_option maxHeartbeats 1600000 in
theorem lsame_any (a : List ByteArray) (ha : a.length ≤ 16777216) (u v : Value) (w : World) (hu : ReadsS w.heap.size w u a) (hv : ReadsS w.heap.size w v a) :
    Calls Tryz.prog 11 #[u, v] w fun e w' => e = .returned (.bool true) ∧ Below w.heap.size w w' := by
  obtain ⟨-, a0, cap, rfl, -, hc⟩ := hu.cells
  obtain ⟨-, b0, capb, rfl, -, hcb⟩ := hv.cells
  have HC := Lib.hid hc
  have HCB := Lib.hid hcb
  clear hc hu hv hcb
  have hnn : ((a.length : Int) != (a.length : Int)) = false := bne_self_eq_false _
  go_enter Tryz.func11, Tryz.ntmps11
  go_wp2
  go_loopw [5] (fun i wr => ∃ k : Nat, k ≤ a.length ∧ i = .int .i64 (k : Int) ∧ Hid (Below w.heap.size w wr)) (fun i _ => a.length - (intOf i).toNat)
  case atStart => exact ⟨0, Nat.zero_le _, rfl, Lib.hid (Below.refl _ _)⟩
  case round =>
    obtain ⟨k, hk, rfl, HB⟩ := hrel
    by_cases hlt : k < a.length
    · have hd : decide ((k : Int) < (a.length : Int)) = true := decide_eq_true (by omega)
      have hki : (k : Int) < (a.length : Int) := by omega
      obtain ⟨b1, off, rfl, hb1, q0⟩ := HC.out k hlt
      obtain ⟨b2, off2, rfl, hb2, q1⟩ := HCB.out k hlt
      obtain ⟨x, hx⟩ : ∃ x, x = a.getD k ⟨#[]⟩ := ⟨_, rfl⟩
      rw [← hx] at q0 q1
      clear hx
      have c0 := (HB.out.cell (p := ⟨b1, off + k, none⟩) hb1).trans q0
      have c1 := (HB.out.cell (p := ⟨b2, off2 + k, none⟩) hb2).trans q1
      have hs1 : (x.toList == x.toList) = true := by simp
      have hs2 : (x.toList != x.toList) = false := by simp
      clear q0 q1
      go_wp2_with fail
      go_quiet (fail)
      all_goals go_wp2_with fail
      all_goals go_roundw
      case rel => exact ⟨k + 1, by omega, by go_num, Lib.hid (HB.out.trans (Joins.below_draws _ _ _))⟩
      case measure => simp [intOf]; omega
    · have hd : decide ((k : Int) < (a.length : Int)) = false := decide_eq_false (by omega)
      go_wp2
      go_ret
      exact ⟨rfl, HB.out⟩
/-- What DrawPrune gives. -/
def Dom12P (w : World) (e : Ending) (w' : World) : Prop :=
  ∃ (r k : Int) (s : ByteArray) (v : Value) (D : List (List ByteArray)), isG (r, k, s) = true ∧ D.length ≤ 72 ∧ (∀ m ∈ D, m.length ≤ 36 ∧ ∀ z ∈ m, z.size ≤ 10) ∧ e = .returned (.tuple #[.agg #[.int .i64 r, .int .i64 k, .string s], v]) ∧ ReadsN w'.heap.size w' v D ∧ Below w.heap.size w w'
set_option maxRecDepth 100000 in
set_option maxHeartbeats 1600000 in
theorem dpr12_any (n cap : Nat) (a0 : Option Addr) (w : World) (hc : Code w.heap.size w a0 n) (hn : n ≤ 1048576) :
    Calls Tryz.prog 5 #[.slice a0 n cap] w (Dom12P w) := by
  go_enter Tryz.func5, Tryz.ntmps5
  go_wp2_with fail
  obtain ⟨W0, hW0⟩ : ∃ W0, W0 = w.alloc (.cells #[.int .i64 0, .int .i64 0, .string ⟨#[]⟩] 25) := ⟨_, rfl⟩
  have HR0 : Hid (W0.heap[w.heap.size]? = some (.cells #[.int .i64 0, .int .i64 0, .string ⟨#[]⟩] 25)) := Lib.hid (by rw [hW0]; exact new_block w _)
  have HB0 : Hid (Below w.heap.size w W0) := Lib.hid (by rw [hW0]; exact (Below.refl _ _).alloc (Nat.le_refl _) _)
  have hw0 : W0.heap.size = w.heap.size + 1 := by rw [hW0]; simp
  have hc0 := code_later hc HB0.out
  have HS0 := Lib.hid hw0
  rw [← hW0]
  clear hW0 hc hw0
  go_wp2_with (first | (go_at_call 18; refine (new_any n cap a0 _ hc0 hn).mono ?_; rintro e w1 ⟨c, rfl, hk, hb⟩; have HR1 := Lib.hid ((hb.block w.heap.size (size_of_heap HR0.out)).trans HR0.out); have HB1 := Lib.hid (HB0.out.trans (hb.mono HB0.out.size)); have hcw : w.heap.size + 1 ≤ c := (by have := hk.1; have := HS0.out; omega); have hw1 := size_of_heap HR1.out; have hcl : c < w1.heap.size := cur_lt hk; clear hb) | (go_at_call 19; refine (draw12_any _ _ c n cap a0 hk).mono ?_; rintro e w2 ⟨gr, gc, gs, f, v, D, hig, hf36, hD, hm, rfl, hkn, hk2, hg2⟩; have HR2 := Lib.hid ((hg2.block w.heap.size (size_of_heap HR1.out) (by simp; omega)).trans HR1.out); have HB2 := Lib.hid (HB1.out.trans (below_grown2 hg2 (show w.heap.size ≤ c by omega) HB1.out.size)); have HKN := Lib.hid hkn; have HM := Lib.hid hm; have HIG := Lib.hid hig; have HK2 := Lib.hid hk2; have hs2 := hg2.size; clear hk hk2 hg2 hkn hm hig; have HR3 := Lib.hid ((Below.heap_alloc w2 (.cells #[.int .i64 gr, .int .i64 gc, .string gs] 25) w.heap.size (size_of_heap HR2.out)).trans HR2.out); obtain ⟨z0, z1, z2, y0, y1, y2⟩ := cells3 HR3.out))
  exact bodyPost_ret (v := .tuple #[.agg #[.int .i64 gr, .int .i64 gc, .string gs], v]) (by simp [results, Tryz.results5, go_sem, z0, z1, z2]) rfl ⟨gr, gc, gs, v, D, HIG.out, hD, HM.out, rfl, (HKN.out _ (by simp) (fun q h1 h2 => (heap_setCell_other _ ⟨w.heap.size, 2, none⟩ q _ (by show q ≠ w.heap.size; omega)).trans ((heap_setCell_other _ ⟨w.heap.size, 1, none⟩ q _ (by show q ≠ w.heap.size; omega)).trans ((heap_setCell_other _ ⟨w.heap.size, 0, none⟩ q _ (by show q ≠ w.heap.size; omega)).trans (Below.heap_alloc w2 _ q h2))))), ((((HB2.out.alloc HB2.out.size (.cells #[.int .i64 gr, .int .i64 gc, .string gs] 25)).setCell (p := ⟨w.heap.size, 0, none⟩) (by simp) _).setCell (p := ⟨w.heap.size, 1, none⟩) (by simp) _).setCell (p := ⟨w.heap.size, 2, none⟩) (by simp) _)⟩
set_option maxRecDepth 100000 in
set_option maxHeartbeats 1600000 in
theorem did12_any (n cap : Nat) (a0 : Option Addr) (w : World) (hc : Code w.heap.size w a0 n) (hn : n ≤ 1048576) :
    Calls Tryz.prog 16 #[.slice a0 n cap] w fun e w' => ∃ (v : Value) (D : List (List ByteArray)), D.length ≤ 72 ∧ e = .returned v ∧ ReadsN w'.heap.size w' v D ∧ Below w.heap.size w w' := by
  go_enter Tryz.func16, Tryz.ntmps16
  go_wp2_with (go_at_call 5; refine (dpr12_any n cap a0 _ hc hn).mono ?_; rintro e w1 ⟨r, k, s, v, D, -, hD, -, rfl, hr, hb⟩; have HR := Lib.hid hr; have HB := Lib.hid hb; clear hr hb)
  go_ret
  exact ⟨v, D, hD, rfl, HR.out.now ((Below.refl _ _).alloc (Nat.le_refl _) _), HB.out.alloc HB.out.size _⟩
/-- What DrawForced gives. -/
def Dom12F (w : World) (e : Ending) (w' : World) : Prop :=
  ∃ (r k : Int) (s f : ByteArray) (v : Value) (D : List (List ByteArray)), isG (r, k, s) = true ∧ f.size ≤ 36 ∧ D.length ≤ 72 ∧ (∀ m ∈ D, m.length ≤ 36 ∧ ∀ z ∈ m, z.size ≤ 10) ∧ e = .returned (.tuple #[.agg #[.int .i64 r, .int .i64 k, .string s], .string f, v]) ∧ ReadsN w'.heap.size w' v D ∧ Below w.heap.size w w'
theorem pruF_10 {g : Int × Int × ByteArray} {D E : List (List ByteArray)} (h : PruF g D E) (hm : ∀ m ∈ D, m.length ≤ 36 ∧ ∀ z ∈ m, z.size ≤ 10) : ∀ m ∈ E, m.length ≤ 36 ∧ ∀ z ∈ m, z.size ≤ 10 := by
  intro m hm9
  refine ⟨pruF_small h (fun m h => (hm m h).1) m hm9, ?_⟩
  obtain ⟨i, hi, rfl⟩ := List.mem_iff_getElem.1 hm9
  intro z hz
  have h1 := pruF_sub h i
  have h2 := pruF_len h
  simp only [List.getD_eq_getElem?_getD, List.getElem?_eq_getElem hi, List.getElem?_eq_getElem (show i < D.length by omega), Option.getD_some] at h1
  exact (hm _ (List.getElem_mem _)).2 z (h1.subset hz)
set_option maxRecDepth 100000 in
set_option maxHeartbeats 3200000 in
theorem dfo12_any (n cap : Nat) (a0 : Option Addr) (w : World) (hc : Code w.heap.size w a0 n) (hn : n ≤ 1048576) :
    Calls Tryz.prog 12 #[.slice a0 n cap] w (Dom12F w) := by
  go_enter Tryz.func12, Tryz.ntmps12
  go_wp2_with fail
  obtain ⟨W0, hW0⟩ : ∃ W0, W0 = w.alloc (.cells #[.int .i64 0, .int .i64 0, .string ⟨#[]⟩] 25) := ⟨_, rfl⟩
  have HR0 : Hid (W0.heap[w.heap.size]? = some (.cells #[.int .i64 0, .int .i64 0, .string ⟨#[]⟩] 25)) := Lib.hid (by rw [hW0]; exact new_block w _)
  have HB0 : Hid (Below w.heap.size w W0) := Lib.hid (by rw [hW0]; exact (Below.refl _ _).alloc (Nat.le_refl _) _)
  have hw0 : W0.heap.size = w.heap.size + 1 := by rw [hW0]; simp
  have hc0 := code_later hc HB0.out
  have HS0 := Lib.hid hw0
  rw [← hW0]
  clear hW0 hc hw0
  go_wp2_with (first | (go_at_call 18; refine (new_any n cap a0 _ hc0 hn).mono ?_; rintro e w1 ⟨c, rfl, hk, hb⟩; have HR1 := Lib.hid ((hb.block w.heap.size (size_of_heap HR0.out)).trans HR0.out); have HB1 := Lib.hid (HB0.out.trans (hb.mono HB0.out.size)); have hcw : w.heap.size + 1 ≤ c := (by have := hk.1; have := HS0.out; omega); have hw1 := size_of_heap HR1.out; have hcl : c < w1.heap.size := cur_lt hk; clear hb) | (go_at_call 19; refine (draw12_any _ _ c n cap a0 hk).mono ?_; rintro e w2 ⟨gr, gc, gs, f, v, D, hig, hf36, hD, hm, rfl, hkn, hk2, hg2⟩; have HR2 := Lib.hid ((hg2.block w.heap.size (size_of_heap HR1.out) (by simp; omega)).trans HR1.out); have HB2 := Lib.hid (HB1.out.trans (below_grown2 hg2 (show w.heap.size ≤ c by omega) HB1.out.size)); have HKN := Lib.hid hkn; have HM := Lib.hid hm; have HIG := Lib.hid hig; have HK2 := Lib.hid hk2; have hs2 := hg2.size; clear hk hk2 hg2 hkn hm hig; have HR3 := Lib.hid ((Below.heap_alloc w2 (.cells #[.int .i64 gr, .int .i64 gc, .string gs] 25) w.heap.size (size_of_heap HR2.out)).trans HR2.out); obtain ⟨z0, z1, z2, y0, y1, y2⟩ := cells3 HR3.out))
  have HS2 := Lib.hid hs2
  obtain ⟨W3, hW3⟩ : ∃ W3, W3 = w2.alloc (.cells #[.int .i64 gr, .int .i64 gc, .string gs] 25) := ⟨_, rfl⟩
  have hw3 : W3.heap.size = w2.heap.size + 1 := by rw [hW3]; simp
  have HX3 : Hid (W3.heap[w2.heap.size]? = some (.cells #[.int .i64 gr, .int .i64 gc, .string gs] 25)) := Lib.hid (by rw [hW3]; exact new_block w2 _)
  have HK3 : Hid (Cur _ W3 c n cap a0) := Lib.hid (by rw [hW3]; exact HK2.out.alloc _)
  have HN3 : Hid (KeepN w1.heap.size W3 v D) := Lib.hid (by rw [hW3]; exact HKN.out.kept (by simp) (fun q h1 h2 => Below.heap_alloc w2 _ q h2))
  have HB3 : Hid (Below w.heap.size w W3) := Lib.hid (by rw [hW3]; exact HB2.out.alloc HB2.out.size _)
  rw [← hW3] at HR3 z0 z1 z2 y0 y1 y2 ⊢
  clear hW3 HR2 HB2 HK2 HKN
  refine (once_any 2 (by decide) (by decide) _ _ c n cap a0 HK3.out).mono ?_
  rintro e w4 ⟨t, ⟨t, rfl⟩, rfl, hk4, hg4⟩
  have hs4 := hg4.size
  have HR4 := Lib.hid ((hg4.block w.heap.size (size_of_heap HR3.out) (by simp; omega)).trans HR3.out)
  have HX4 := Lib.hid ((hg4.block w2.heap.size (size_of_heap HX3.out) (by simp; omega)).trans HX3.out)
  have HB4 := Lib.hid (HB3.out.trans (below_grown2 hg4 (show w.heap.size ≤ c by omega) HB3.out.size))
  have HN4 := Lib.hid (HN3.out.kept hs4 (fun q h1 h2 => hg4.block q h2 (by simp; omega)))
  clear hk4 hg4 z0 z1 z2 y0 y1 y2 HR3 HX3 HB3 HN3 HK3
  have hgs := isG_size HIG.out
  simp only at hgs
  have HPR := Lib.hid (fun W hv => sprune_any gr gc gs D (by omega) (by omega) (fun m hm => ⟨by have := (HM.out m hm).1; omega, fun z hz => by have := (HM.out m hm).2 z hz; omega⟩) v W hv)
  cases t with
  | true =>
    obtain ⟨x0, x1, x2, fx0, fx1, fx2⟩ := cells3 HX4.out
    go_wp2_with (go_at_call 30; refine (HPR.out _ HN4.out.now).mono ?_; rintro e w5 ⟨v5, E, rfl, o5, hp5, b5⟩; have HO5 := Lib.hid o5; have HP5 := Lib.hid hp5; have HB5 := Lib.hid (HB4.out.trans (b5.mono HB4.out.size)); have HR5 := Lib.hid ((b5.block w.heap.size (size_of_heap HR4.out)).trans HR4.out); have HX5 := Lib.hid ((b5.block w2.heap.size (size_of_heap HX4.out)).trans HX4.out); have hw4 := size_of_heap HR4.out; clear o5 hp5 b5 x0 x1 x2 fx0 fx1 fx2; obtain ⟨x0, x1, x2, fx0, fx1, fx2⟩ := cells3 HX5.out; obtain ⟨z0, z1, z2, y0, y1, y2⟩ := cells3 HR5.out)
    exact bodyPost_ret (v := .tuple #[.agg #[.int .i64 gr, .int .i64 gc, .string gs], .string f, v5]) (by simp [results, Tryz.results12, go_sem, z0, z1, z2]) rfl ⟨gr, gc, gs, f, v5, E, HIG.out, hf36, by rw [pruF_len HP5.out]; exact hD, pruF_10 HP5.out HM.out, rfl, (ownT_set (ownT_set (ownT_set HO5.out hw4 _ _) hw4 _ _) hw4 _ _).reads (by have := pruF_len HP5.out; omega) (fun m hm => by have := (pruF_10 HP5.out HM.out m hm).1; omega), (((HB5.out.setCell (p := ⟨w.heap.size, 0, none⟩) (by simp) _).setCell (p := ⟨w.heap.size, 1, none⟩) (by simp) _).setCell (p := ⟨w.heap.size, 2, none⟩) (by simp) _)⟩
  | false =>
    obtain ⟨x0, x1, x2, fx0, fx1, fx2⟩ := cells3 HX4.out
    obtain ⟨z0, z1, z2, y0, y1, y2⟩ := cells3 HR4.out
    go_wp2_with fail
    exact bodyPost_ret (v := .tuple #[.agg #[.int .i64 gr, .int .i64 gc, .string gs], .string f, v]) (by simp [results, Tryz.results12, go_sem, z0, z1, z2]) rfl ⟨gr, gc, gs, f, v, D, HIG.out, hf36, hD, HM.out, rfl, (HN4.out _ (by simp) (fun q h1 h2 => (heap_setCell_other _ ⟨w.heap.size, 2, none⟩ q _ (by show q ≠ w.heap.size; omega)).trans ((heap_setCell_other _ ⟨w.heap.size, 1, none⟩ q _ (by show q ≠ w.heap.size; omega)).trans (heap_setCell_other _ ⟨w.heap.size, 0, none⟩ q _ (by show q ≠ w.heap.size; omega))))), (((HB4.out.setCell (p := ⟨w.heap.size, 0, none⟩) (by simp) _).setCell (p := ⟨w.heap.size, 1, none⟩) (by simp) _).setCell (p := ⟨w.heap.size, 2, none⟩) (by simp) _)⟩
set_option maxHeartbeats 1600000 in
theorem lagr12_any (x f : ByteArray) (hs : x.size = f.size) (hf : f.size ≤ 1048576) (h : ∀ j, j < f.size → f.data.toList.getD j 0 ≠ 63 → x.data.toList.getD j 0 = f.data.toList.getD j 0) (w : World) :
    Calls Tryz.prog 15 #[.string x, .string f] w fun e w' => e = .returned (.bool true) ∧ Below w.heap.size w w' := by
  have HS := Lib.hid hs
  have HH := Lib.hid h
  clear hs h
  go_enter Tryz.func15, Tryz.ntmps15
  go_wp2
  go_loopw [5] (fun i wr => ∃ k : Nat, k ≤ f.size ∧ i = .int .i64 k ∧ Below w.heap.size w wr) (fun i _ => f.size - (intOf i).toNat)
  case atStart => exact ⟨0, Nat.zero_le _, rfl, Below.refl _ _⟩
  case round =>
    obtain ⟨k, hk, rfl, hbl⟩ := hrel
    by_cases hlt : k < f.size
    · have hd : decide ((k : Int) < (f.size : Int)) = true := decide_eq_true (by omega)
      have hd9 : decide (k < f.size) = true := decide_eq_true hlt
      have hlt2 : k < x.size := by have := HS.out; omega
      by_cases h63 : f[k] = 63
      · have hq : ((f[k].toNat : Int) != 63) = false := by simp [h63]
        clear h63
        go_wp2
        go_quiet (fail)
        all_goals go_wp2
        go_roundw
        case rel => exact ⟨k + 1, by omega, by go_num, below_drewN hbl _⟩
        case measure => simp [intOf]; omega
      · have hxk : x[k] = f[k] := by
          have h9 := HH.out k hlt (by rw [getD_byte f k hlt]; exact h63)
          rw [getD_byte f k hlt, getD_byte x k hlt2] at h9
          exact h9
        have hq : ((f[k].toNat : Int) != 63) = true := by simp; intro h; exact h63 (UInt8.toNat_inj.1 (by show f[k].toNat = 63; omega))
        have hge : decide ((x.size : Int) ≤ (k : Int)) = false := decide_eq_false (by omega)
        have hge9 : decide (x.size ≤ k) = false := decide_eq_false (by omega)
        have hq2 : ((x[k].toNat : Int) != (f[k].toNat : Int)) = false := by simp [hxk]
        clear h63 hxk
        go_wp2
        go_quiet (fail)
        all_goals go_wp2
        go_roundw
        case rel => exact ⟨k + 1, by omega, by go_num, below_drewN hbl _⟩
        case measure => simp [intOf]; omega
    · have hd : decide ((k : Int) < (f.size : Int)) = false := decide_eq_false (by omega)
      have hd9 : decide (k < f.size) = false := decide_eq_false hlt
      have he : ((x.size : Int) == (f.size : Int)) = true := by simp [HS.out]
      go_wp2
      go_ret
      exact ⟨rfl, hbl⟩
end Go.Proofs.YtgjijmcedonlmaaGreatDoor
