/-
  The walk of the law FnExactAddWord: true at every argument, by the contracts of spec.AddWord and impl.AddWord.
-/
import Derived.Deep.RegionHeld3
import Derived.Test.YtcpojeiciaghmaaListImpl
import Derived.Test.YtcpojeiciaghmaaListImplG
namespace Go.Proofs.Ytcpojeiciaghmaa.fnExactAddWord
open Go.RowKit

theorem below_mark {B base n s : Nat} {a w w' : World} {e : TypeId} {v : Value} {xs : List Value} (h : Below B a w) (hg : w.grownBy w' v.ownBlock) (ho : w.ownsRow base e s v n xs) (hB : B ≤ base) (hw : B ≤ w.heap.size) : Below B a w' :=
  h.grown hg hw (fun k hk => Nat.le_trans hB (ho.lt k hk).1)

set_option maxRecDepth 100000 in
set_option maxHeartbeats 3200000 in
theorem walk (v0 : Value) (l0 : List (ByteArray × Int × Int × Int)) (y1_0 : ByteArray) (y1_1 : Int) (y1_2 : Int) (y1_3 : Int) (w : World) (hR0 : ReadsListed w.heap.size w v0 l0) (hB0 : ∀ z ∈ l0, ok_Listed z) (hK1 : ok_Listed (y1_0, y1_1, y1_2, y1_3)) :
    Calls Try.prog 6 #[v0, .agg #[.string y1_0, .int .i64 y1_1, .int .i64 y1_2, .int .i64 y1_3]] w fun e w' => e = .returned (.bool true) ∧ Below w.heap.size w w' := by
  obtain ⟨a00, cap0, rfl⟩ : ∃ a0 cap, v0 = .slice a0 l0.length cap := ⟨hR0.2.2.choose, hR0.2.2.choose_spec.choose, hR0.2.2.choose_spec.choose_spec.1⟩
  have HR0 := Lib.hid hR0
  have HB0 := Lib.hid hB0
  have hlen0 := hR0.1
  clear hR0 hB0
  have HK1 := Lib.hid hK1
  clear hK1
  go_enter Try.func6, Try.ntmps6
  go_wp2_with fail
  obtain ⟨W0, hW0⟩ : ∃ W0, W0 = (w.alloc (.cells #[.string y1_0, .int .i64 y1_1, .int .i64 y1_2, .int .i64 y1_3] 52)) := ⟨_, rfl⟩
  have HBX := Lib.hid (show Below w.heap.size w W0 by rw [hW0]; exact ((Below.refl w.heap.size w).alloc (Nat.le_refl _) (.cells #[.string y1_0, .int .i64 y1_1, .int .i64 y1_2, .int .i64 y1_3] 52)))
  have hws : W0.heap.size = w.heap.size + 1 := by rw [hW0]; simp
  have HBOX1 : Hid (W0.cell? ⟨w.heap.size, 0, none⟩ = some (.string y1_0) ∧ W0.cell? ⟨w.heap.size, 1, none⟩ = some (.int .i64 y1_1) ∧ W0.cell? ⟨w.heap.size, 2, none⟩ = some (.int .i64 y1_2) ∧ W0.cell? ⟨w.heap.size, 3, none⟩ = some (.int .i64 y1_3)) := Lib.hid (by rw [hW0]; simp)
  rw [← hW0]
  have HQ0 := Lib.hid (HR0.out.now HBX.out)
  clear HR0
  have HR0 := HQ0
  clear HQ0
  clear hW0
  have C0 := Lib.hid (Below.refl W0.heap.size W0)
  (go_at_call 21; refine (sz_ListedS l0 1048576 (by omega) (by omega) _ _ (fun z hz => (HB0.out z hz).1) (HR0.out.now C0.out)).mono ?_; rintro e w1 ⟨rl1, HL0, rfl, b⟩; have HLL0 := Lib.hid HL0; clear HL0; have CX := btrans C0.out b; have bx1_0 := (CX.cell (p := ⟨w.heap.size, 0, none⟩) (by show w.heap.size < _; omega)).trans HBOX1.out.1; have bx1_1 := (CX.cell (p := ⟨w.heap.size, 1, none⟩) (by show w.heap.size < _; omega)).trans HBOX1.out.2.1; have bx1_2 := (CX.cell (p := ⟨w.heap.size, 2, none⟩) (by show w.heap.size < _; omega)).trans HBOX1.out.2.2.1; have bx1_3 := (CX.cell (p := ⟨w.heap.size, 3, none⟩) (by show w.heap.size < _; omega)).trans HBOX1.out.2.2.2; clear CX)
  go_wp2_with fail
  · go_ret
    exact ⟨rfl, HBX.out.trans ((btrans C0.out b).mono (by omega))⟩
  · have hr1 : 0 ≤ rl1 := by omega
    have hle1 := (HLL0.out.2 hr1).1
    have hsl0 := (HLL0.out.2 hr1).2.1
    have HS0 := Lib.hid (fun z hz => (show (_ : Int) ≤ 1048576 from Int.le_trans ((HLL0.out.2 hr1).2.2 z hz) (by omega)))
    have C1 := Lib.hid (btrans C0.out b)
    clear b C0
    have FL := Lib.hid trivial
    go_wp2_with (go_at_call 30; have FG := FL; refine (one_sz_Listed y1_0 y1_1 y1_2 y1_3 rl1 (HK1.out).1 (by omega) (by omega) _).mono ?_; rintro e w2 ⟨rl2, HG1, HJ1, HL1, rfl, b⟩; have HLL1 := Lib.hid (And.intro HG1 (And.intro HJ1 HL1)); clear HG1 HJ1 HL1; clear FL FG)
    · go_ret
      exact ⟨rfl, HBX.out.trans ((btrans C1.out b).mono (by omega))⟩
    · have hr2 : 0 ≤ rl2 := by omega
      have hle2 := HLL1.out.2.1
      have hsl1 := HLL1.out.2.2 hr2
      have C2 := Lib.hid (btrans C1.out b)
      clear b C1
      have HKX3 : Hid (∀ w', Below W0.heap.size W0 w' → w'.cell? ⟨w.heap.size, 0, none⟩ = some (.string y1_0) ∧ w'.cell? ⟨w.heap.size, 1, none⟩ = some (.int .i64 y1_1) ∧ w'.cell? ⟨w.heap.size, 2, none⟩ = some (.int .i64 y1_2) ∧ w'.cell? ⟨w.heap.size, 3, none⟩ = some (.int .i64 y1_3)) := Lib.hid (fun w' h => ⟨(h.cell (p := ⟨w.heap.size, 0, none⟩) (by show w.heap.size < _; omega)).trans HBOX1.out.1, (h.cell (p := ⟨w.heap.size, 1, none⟩) (by show w.heap.size < _; omega)).trans HBOX1.out.2.1, (h.cell (p := ⟨w.heap.size, 2, none⟩) (by show w.heap.size < _; omega)).trans HBOX1.out.2.2.1, (h.cell (p := ⟨w.heap.size, 3, none⟩) (by show w.heap.size < _; omega)).trans HBOX1.out.2.2.2⟩)
      obtain ⟨kk0, kk1, kk2, kk3⟩ := HKX3.out _ C2.out
      go_wp2_with fail
      go_region_held3 (fun w' => w'.cell? ⟨w.heap.size, 0, none⟩ = some (.string y1_0) ∧ w'.cell? ⟨w.heap.size, 1, none⟩ = some (.int .i64 y1_1) ∧ w'.cell? ⟨w.heap.size, 2, none⟩ = some (.int .i64 y1_2) ∧ w'.cell? ⟨w.heap.size, 3, none⟩ = some (.int .i64 y1_3)) (first | exact ⟨kk0, kk1, kk2, kk3⟩ | exact HKX3.out _ CY2.out | exact HKX3.out _ CY1.out | exact HKX3.out _ CY0.out) (first | (go_at_call 23; refine Calls.mono (to_ListedS l0 (by omega) _ _ (by first | exact HR0.out.now C2.out | exact HR0.out.now C2.out.drew)) ?_; rintro e w3 ⟨x_t2, rfl, o, b⟩; have CY0 := Lib.hid (by first | exact btrans C2.out b | exact btrans C2.out.drew b); have BT0 := Lib.hid (by first | exact b | exact btrans ((Below.refl _ _).drew) b); have OY_t2_0 := Lib.hid o; clear b o) | (go_at_call 32; refine Calls.mono (one_to_Listed y1_0 y1_1 y1_2 y1_3 _) ?_; rintro e w4 ⟨rfl, b⟩; have CY1 := Lib.hid (by first | exact btrans CY0.out b | exact btrans CY0.out.drew b); have BT1 := Lib.hid (by first | exact btrans BT0.out b | exact btrans BT0.out.drew b); have OY_t2_1 := Lib.hid (by first | exact ownV_later OY_t2_0.out b | exact ownV_later OY_t2_0.out.drew b); clear b) | (go_at_call 31; refine Calls.mono (s_AddWord x_t2 l0 y1_0 y1_1 y1_2 y1_3 _ (by first | exact (reads_Listed_own OY_t2_1.out rfl (by omega)) | exact (reads_Listed_own OY_t2_1.out.drew rfl (by omega))) HB0.out (by omega) (fun z hz => by have := HS0.out z hz; omega) HK1.out (by omega)) ?_; rintro e w5 ⟨rw0, rw1, x_w0, HAw, hnw0, rfl, o0, b⟩; have HHw := Lib.hid HAw; clear HAw; have CY2 := Lib.hid (by first | exact btrans CY1.out b | exact btrans CY1.out.drew b); have BT2 := Lib.hid (by first | exact btrans BT1.out b | exact btrans BT1.out.drew b); have OY_t2_2 := Lib.hid (by first | exact ownV_later OY_t2_1.out b | exact ownV_later OY_t2_1.out.drew b); have OY_w0_2 := Lib.hid o0; clear b o0))
      go_wp2_with fail
      have O_w0_5 := OY_w0_2
      have C5 := CY2
      (go_at_call 23; refine (to_ListedS l0 (by omega) _ _ (HR0.out.now C5.out)).mono ?_; rintro e w6 ⟨x_x0, rfl, o, b⟩; have CX := btrans C5.out b; have bx1_0 := (CX.cell (p := ⟨w.heap.size, 0, none⟩) (by show w.heap.size < _; omega)).trans HBOX1.out.1; have bx1_1 := (CX.cell (p := ⟨w.heap.size, 1, none⟩) (by show w.heap.size < _; omega)).trans HBOX1.out.2.1; have bx1_2 := (CX.cell (p := ⟨w.heap.size, 2, none⟩) (by show w.heap.size < _; omega)).trans HBOX1.out.2.2.1; have bx1_3 := (CX.cell (p := ⟨w.heap.size, 3, none⟩) (by show w.heap.size < _; omega)).trans HBOX1.out.2.2.2; clear CX)
      go_wp2_with fail
      have AP_w0_x0 := Lib.hid (apartV_of O_w0_5.out o (Nat.le_refl _))
      have O_x0_6 := Lib.hid o
      have SZ_x0 := Lib.hid C5.out.size
      have O_w0_6 := Lib.hid (ownV_later O_w0_5.out b)
      have C6 := Lib.hid (btrans C5.out b)
      clear b C5 o O_w0_5
      have FL := Lib.hid trivial
      go_wp2_with (go_at_call 32; have FG := FL; refine (one_to_Listed y1_0 y1_1 y1_2 y1_3 _).mono ?_; rintro e w7 ⟨rfl, b⟩; clear FL FG)
      have O_w0_7 := Lib.hid (ownV_later O_w0_6.out b)
      have O_x0_7 := Lib.hid (ownV_later O_x0_6.out b)
      have C7 := Lib.hid (btrans C6.out b)
      clear b C6 O_w0_6 O_x0_6
      have FL := Lib.hid trivial
      go_wp2_with (go_at_call 16; have FG := FL; refine (i_AddWord x_x0 l0 y1_0 y1_1 y1_2 y1_3 _ (reads_Listed_own O_x0_7.out rfl (by omega)) HB0.out (by omega) (fun z hz => by have := HS0.out z hz; omega) HK1.out (by omega)).mono ?_; rintro e w8 ⟨rg0, rg1, x_g0, HAg, hng0, rfl, o0, b⟩; obtain ⟨rfl, rfl⟩ := u_AddWord HHw.out HAg; clear HAg; clear FL FG)
      have AP_w0_g0 := Lib.hid (apartV_of O_w0_7.out o0 (Nat.le_refl _))
      have AP_x0_g0 := Lib.hid (apartV_of O_x0_7.out o0 (Nat.le_refl _))
      have O_g0_8 := Lib.hid o0
      have SZ_g0 := Lib.hid C7.out.size
      have O_w0_8 := Lib.hid (ownV_later O_w0_7.out b)
      have O_x0_8 := Lib.hid (ownV_later O_x0_7.out b)
      have C8 := Lib.hid (btrans C7.out b)
      clear b C7 o0 O_w0_7 O_x0_7
      have FL := Lib.hid trivial
      go_wp2_with (go_at_call 24; have FG := FL; refine (eq_ListedS rw0 x_g0 x_w0 _ (reads_Listed_own O_g0_8.out rfl (by omega)) (reads_Listed_own O_w0_8.out rfl (by omega))).mono ?_; rintro e w9 ⟨rfl, b⟩; clear FL FG)
      have O_w0_9 := Lib.hid (ownV_later O_w0_8.out b)
      have O_x0_9 := Lib.hid (ownV_later O_x0_8.out b)
      have O_g0_9 := Lib.hid (ownV_later O_g0_8.out b)
      have C9 := Lib.hid (btrans C8.out b)
      clear b C8 O_w0_8 O_x0_8 O_g0_8
      have FL := Lib.hid trivial
      go_wp2_with (go_at_call 23; have FG := FL; refine (to_ListedS l0 (by omega) _ _ (HR0.out.now C9.out)).mono ?_; rintro e w10 ⟨x_t9, rfl, o, b⟩; clear FL FG)
      have AP_x0_t9 := Lib.hid (apartV_of O_x0_9.out o (Nat.le_refl _))
      have AP_g0_t9 := Lib.hid (apartV_of O_g0_9.out o (Nat.le_refl _))
      have O_t9_10 := Lib.hid o
      have O_w0_10 := Lib.hid (ownV_later O_w0_9.out b)
      have O_x0_10 := Lib.hid (ownV_later O_x0_9.out b)
      have O_g0_10 := Lib.hid (ownV_later O_g0_9.out b)
      have C10 := Lib.hid (btrans C9.out b)
      clear b C9 o O_w0_9 O_x0_9 O_g0_9
      have FL := Lib.hid trivial
      go_wp2_with (go_at_call 24; have FG := FL; refine (eq_ListedS l0 x_x0 x_t9 _ (reads_Listed_own O_x0_10.out rfl (by omega)) (reads_Listed_own O_t9_10.out rfl (by omega))).mono ?_; rintro e w11 ⟨rfl, b⟩; clear FL FG)
      have O_w0_11 := Lib.hid (ownV_later O_w0_10.out b)
      have O_x0_11 := Lib.hid (ownV_later O_x0_10.out b)
      have O_g0_11 := Lib.hid (ownV_later O_g0_10.out b)
      have C11 := Lib.hid (btrans C10.out b)
      clear b C10 O_w0_10 O_x0_10 O_g0_10 O_t9_10
      have FL := Lib.hid trivial
      go_wp2_with (go_at_call 27; have FG := FL; refine (mark_ListedS _ l0.length x_x0 _ (by rfl) (by omega) 1 (by omega) (by omega) _ O_x0_11.out).mono ?_; rintro e w12 ⟨rfl, _, hg⟩; clear FL FG)
      have O_w0_12 := Lib.hid (O_w0_11.out.kept hg AP_w0_x0.out.1)
      have O_g0_12 := Lib.hid (O_g0_11.out.kept hg AP_x0_g0.out.2)
      have C12 := Lib.hid (below_mark C11.out hg O_x0_11.out SZ_x0.out C11.out.size)
      clear O_w0_11 O_g0_11 O_x0_11 C11 hg
      have FL := Lib.hid trivial
      go_wp2_with (go_at_call 24; have FG := FL; refine (eq_ListedS rw0 x_g0 x_w0 _ (reads_Listed_own O_g0_12.out rfl (by omega)) (reads_Listed_own O_w0_12.out rfl (by omega))).mono ?_; rintro e w13 ⟨rfl, b⟩; clear FL FG)
      have O_w0_13 := Lib.hid (ownV_later O_w0_12.out b)
      have O_g0_13 := Lib.hid (ownV_later O_g0_12.out b)
      have C13 := Lib.hid (btrans C12.out b)
      clear b C12 O_w0_12 O_g0_12
      have FL := Lib.hid trivial
      go_wp2_with (go_at_call 27; have FG := FL; refine (mark_ListedS _ rw0.length x_g0 _ (by rfl) (by omega) 1 (by omega) (by omega) _ O_g0_13.out).mono ?_; rintro e w14 ⟨rfl, o, hg⟩; clear FL FG)
      have O_w0_14 := Lib.hid (O_w0_13.out.kept hg AP_w0_g0.out.1)
      have C14 := Lib.hid (below_mark C13.out hg O_g0_13.out SZ_g0.out C13.out.size)
      have O_g0_14 := Lib.hid o
      clear O_w0_13 O_g0_13 C13 hg o
      have FL := Lib.hid trivial
      go_wp2_with (go_at_call 33; have FG := FL; refine (held_ListedS rw0.length (by omega) 1 (by omega) (by omega) x_g0 _ (reads_Listed_own O_g0_14.out (mks_Listed_length _ _).symm (by rw [mks_Listed_length]; omega))).mono ?_; rintro e w15 ⟨rfl, b⟩; clear FL FG)
      have O_w0_15 := Lib.hid (ownV_later O_w0_14.out b)
      have O_g0_15 := Lib.hid (ownV_later O_g0_14.out b)
      have C15 := Lib.hid (btrans C14.out b)
      clear b C14 O_w0_14 O_g0_14
      have HKX16 : Hid (∀ w', Below W0.heap.size W0 w' → w'.cell? ⟨w.heap.size, 0, none⟩ = some (.string y1_0) ∧ w'.cell? ⟨w.heap.size, 1, none⟩ = some (.int .i64 y1_1) ∧ w'.cell? ⟨w.heap.size, 2, none⟩ = some (.int .i64 y1_2) ∧ w'.cell? ⟨w.heap.size, 3, none⟩ = some (.int .i64 y1_3)) := Lib.hid (fun w' h => ⟨(h.cell (p := ⟨w.heap.size, 0, none⟩) (by show w.heap.size < _; omega)).trans HBOX1.out.1, (h.cell (p := ⟨w.heap.size, 1, none⟩) (by show w.heap.size < _; omega)).trans HBOX1.out.2.1, (h.cell (p := ⟨w.heap.size, 2, none⟩) (by show w.heap.size < _; omega)).trans HBOX1.out.2.2.1, (h.cell (p := ⟨w.heap.size, 3, none⟩) (by show w.heap.size < _; omega)).trans HBOX1.out.2.2.2⟩)
      obtain ⟨kk0, kk1, kk2, kk3⟩ := HKX16.out _ C15.out
      go_wp2_with fail
      go_region_held3 (fun w' => w'.cell? ⟨w.heap.size, 0, none⟩ = some (.string y1_0) ∧ w'.cell? ⟨w.heap.size, 1, none⟩ = some (.int .i64 y1_1) ∧ w'.cell? ⟨w.heap.size, 2, none⟩ = some (.int .i64 y1_2) ∧ w'.cell? ⟨w.heap.size, 3, none⟩ = some (.int .i64 y1_3)) (first | exact ⟨kk0, kk1, kk2, kk3⟩ | exact HKX16.out _ CY2.out | exact HKX16.out _ CY1.out | exact HKX16.out _ CY0.out) (first | (go_at_call 23; refine Calls.mono (to_ListedS l0 (by omega) _ _ (by first | exact HR0.out.now C15.out | exact HR0.out.now C15.out.drew)) ?_; rintro e w16 ⟨x_t15, rfl, o, b⟩; have CY0 := Lib.hid (by first | exact btrans C15.out b | exact btrans C15.out.drew b); have BT0 := Lib.hid (by first | exact b | exact btrans ((Below.refl _ _).drew) b); have OY_t15_0 := Lib.hid o; clear b o) | (go_at_call 32; refine Calls.mono (one_to_Listed y1_0 y1_1 y1_2 y1_3 _) ?_; rintro e w17 ⟨rfl, b⟩; have CY1 := Lib.hid (by first | exact btrans CY0.out b | exact btrans CY0.out.drew b); have BT1 := Lib.hid (by first | exact btrans BT0.out b | exact btrans BT0.out.drew b); have OY_t15_1 := Lib.hid (by first | exact ownV_later OY_t15_0.out b | exact ownV_later OY_t15_0.out.drew b); clear b) | (go_at_call 16; refine Calls.mono (i_AddWord x_t15 l0 y1_0 y1_1 y1_2 y1_3 _ (by first | exact (reads_Listed_own OY_t15_1.out rfl (by omega)) | exact (reads_Listed_own OY_t15_1.out.drew rfl (by omega))) HB0.out (by omega) (fun z hz => by have := HS0.out z hz; omega) HK1.out (by omega)) ?_; rintro e w18 ⟨rh0, rh1, x_h0, HAh, hnh0, rfl, o0, b⟩; obtain ⟨rfl, rfl⟩ := u_AddWord HHw.out HAh; clear HAh; have CY2 := Lib.hid (by first | exact btrans CY1.out b | exact btrans CY1.out.drew b); have BT2 := Lib.hid (by first | exact btrans BT1.out b | exact btrans BT1.out.drew b); have OY_t15_2 := Lib.hid (by first | exact ownV_later OY_t15_1.out b | exact ownV_later OY_t15_1.out.drew b); have OY_h0_2 := Lib.hid o0; clear b o0))
      go_wp2_with fail
      have O_w0_18 := Lib.hid (by first | exact ownV_later O_w0_15.out BT2.out | exact ownV_later O_w0_15.out.drew BT2.out)
      have O_g0_18 := Lib.hid (by first | exact ownV_later O_g0_15.out BT2.out | exact ownV_later O_g0_15.out.drew BT2.out)
      have O_h0_18 := OY_h0_2
      have C18 := CY2
      clear O_w0_15 O_g0_15
      (go_at_call 24; refine (eq_ListedS rw0 x_h0 x_w0 _ (reads_Listed_own O_h0_18.out rfl (by omega)) (reads_Listed_own O_w0_18.out rfl (by omega))).mono ?_; rintro e w19 ⟨rfl, b⟩)
      go_wp2_with fail
      have O_g0_19 := Lib.hid (ownV_later O_g0_18.out b)
      have C19 := Lib.hid (btrans C18.out b)
      clear b C18 O_w0_18 O_g0_18 O_h0_18
      have FL := Lib.hid trivial
      go_wp2_with (go_at_call 33; have FG := FL; refine (held_ListedS rw0.length (by omega) 1 (by omega) (by omega) x_g0 _ (reads_Listed_own O_g0_19.out (mks_Listed_length _ _).symm (by rw [mks_Listed_length]; omega))).mono ?_; rintro e w20 ⟨rfl, b⟩; clear FL FG)
      have C20 := Lib.hid (btrans C19.out b)
      clear b C19 O_g0_19
      go_ret
      exact ⟨rfl, HBX.out.trans (C20.out.mono (by omega))⟩
end Go.Proofs.Ytcpojeiciaghmaa.fnExactAddWord
