/-
  The walk of the law FnExactWordsFitting: true at every argument, by the contracts of spec.WordsFitting and impl.WordsFitting.
-/
import Derived.Test.YthcbaiokomilaaaDoorPatImplD
namespace Go.Proofs.YthcbaiokomilaaaDoor.fnExactWordsFitting
open Go.RowKit

theorem below_mark {B base n s : Nat} {a w w' : World} {e : TypeId} {v : Value} {xs : List Value} (h : Below B a w) (hg : w.grownBy w' v.ownBlock) (ho : w.ownsRow base e s v n xs) (hB : B ≤ base) (hw : B ≤ w.heap.size) : Below B a w' :=
  h.grown hg hw (fun k hk => Nat.le_trans hB (ho.lt k hk).1)

set_option maxRecDepth 100000 in
set_option maxHeartbeats 3200000 in
theorem walk (v0 : Value) (l0 : List ByteArray) (a1 : ByteArray) (w : World) (hR0 : ReadsS w.heap.size w v0 l0) (hB0 : ∀ z ∈ l0, z.size ≤ maxLen) (hs1 : a1.size ≤ maxLen) (hV : ML w) :
    Calls Tryd.prog 6 #[v0, .string a1] w fun e w' => e = .returned (.bool true) ∧ Below w.heap.size w w' := by
  have HV := Lib.hid hV
  clear hV
  obtain ⟨a00, cap0, rfl⟩ : ∃ a0 cap, v0 = .slice a0 l0.length cap := ⟨hR0.2.2.choose, hR0.2.2.choose_spec.choose, hR0.2.2.choose_spec.choose_spec.1⟩
  have HR0 := Lib.hid hR0
  have HB0 := Lib.hid hB0
  have hlen0 := hR0.1
  clear hR0 hB0
  unfold maxLen at hs1
  by_cases hbig1 : 1048576 < a1.size
  · go_enter Tryd.func6, Tryd.ntmps6
    go_wp2
    go_ret
    exact ⟨rfl, Below.refl _ _⟩
  · skip
    go_enter Tryd.func6, Tryd.ntmps6
    have C0 := Lib.hid (Below.refl w.heap.size w)
    have FL := Lib.hid trivial
    go_wp2_with (go_at_call 24; have FG := FL; refine (sz_strs l0 1048576 (by omega) (by omega) _ _ HB0.out (HR0.out.now C0.out)).mono ?_; rintro e w1 ⟨rl1, HL0, rfl, rfl⟩; have HLL0 := Lib.hid HL0; clear HL0; clear FL FG)
    · go_ret
      exact ⟨rfl, C0.out⟩
    · have hr1 : 0 ≤ rl1 := by omega
      have hle1 := (HLL0.out.2 hr1).1
      have hsl0 := (HLL0.out.2 hr1).2.1
      have HS0 := Lib.hid (fun z hz => (show (_ : Int) ≤ 1048576 from Int.le_trans ((HLL0.out.2 hr1).2.2 z hz) (by omega)))
      have FL := Lib.hid trivial
      go_wp2_with (go_at_call 26; have FG := FL; refine (to_strs l0 (by omega) _ _ (HR0.out.now C0.out)).mono ?_; rintro e w2 ⟨x_t1, rfl, o, b⟩; clear FL FG)
      have O_t1_2 := Lib.hid o
      have C2 := Lib.hid (btrans C0.out b)
      clear b C0 o
      have FL := Lib.hid trivial
      go_wp2_with (go_at_call 25; have FG := FL; refine (s_WordsFitting x_t1 l0 a1 _ (readsS_own O_t1_2.out rfl (by omega)) (by omega) (fun z hz => by have := HS0.out z hz; omega) (by omega)).mono ?_; rintro e w3 ⟨rw0, x_w0, HAw, hnw0, rfl, o0, b⟩; have HHw := Lib.hid HAw; clear HAw; clear FL FG)
      have O_w0_3 := Lib.hid o0
      have C3 := Lib.hid (btrans C2.out b)
      clear b C2 o0 O_t1_2
      have FL := Lib.hid trivial
      go_wp2_with (go_at_call 26; have FG := FL; refine (to_strs l0 (by omega) _ _ (HR0.out.now C3.out)).mono ?_; rintro e w4 ⟨x_x0, rfl, o, b⟩; clear FL FG)
      have AP_w0_x0 := Lib.hid (apartV_of O_w0_3.out o (Nat.le_refl _))
      have O_x0_4 := Lib.hid o
      have SZ_x0 := Lib.hid C3.out.size
      have O_w0_4 := Lib.hid (ownV_later O_w0_3.out b)
      have C4 := Lib.hid (btrans C3.out b)
      clear b C3 o O_w0_3
      have FL := Lib.hid trivial
      go_wp2_with (go_at_call 16; have FG := FL; refine (i_WordsFitting x_x0 l0 a1 _ (readsS_own O_x0_4.out rfl (by omega)) (by omega) (fun z hz => by have := HS0.out z hz; omega) (by omega) (HV.out.later C4.out)).mono ?_; rintro e w5 ⟨rg0, x_g0, HAg, hng0, rfl, o0, b⟩; obtain rfl := u_WordsFitting HHw.out HAg; clear HAg; clear FL FG)
      have AP_w0_g0 := Lib.hid (apartV_of O_w0_4.out o0 (Nat.le_refl _))
      have AP_x0_g0 := Lib.hid (apartV_of O_x0_4.out o0 (Nat.le_refl _))
      have O_g0_5 := Lib.hid o0
      have SZ_g0 := Lib.hid C4.out.size
      have O_w0_5 := Lib.hid (ownV_later O_w0_4.out b)
      have O_x0_5 := Lib.hid (ownV_later O_x0_4.out b)
      have C5 := Lib.hid (btrans C4.out b)
      clear b C4 o0 O_w0_4 O_x0_4
      have FL := Lib.hid trivial
      go_wp2_with (go_at_call 27; have FG := FL; refine (eq_strs rw0 x_g0 x_w0 _ (readsS_own O_g0_5.out rfl (by omega)) (readsS_own O_w0_5.out rfl (by omega))).mono ?_; rintro e w6 ⟨rfl, b⟩; clear FL FG)
      have O_w0_6 := Lib.hid (ownV_later O_w0_5.out b)
      have O_x0_6 := Lib.hid (ownV_later O_x0_5.out b)
      have O_g0_6 := Lib.hid (ownV_later O_g0_5.out b)
      have C6 := Lib.hid (btrans C5.out b)
      clear b C5 O_w0_5 O_x0_5 O_g0_5
      have FL := Lib.hid trivial
      go_wp2_with (go_at_call 26; have FG := FL; refine (to_strs l0 (by omega) _ _ (HR0.out.now C6.out)).mono ?_; rintro e w7 ⟨x_t6, rfl, o, b⟩; clear FL FG)
      have AP_x0_t6 := Lib.hid (apartV_of O_x0_6.out o (Nat.le_refl _))
      have AP_g0_t6 := Lib.hid (apartV_of O_g0_6.out o (Nat.le_refl _))
      have O_t6_7 := Lib.hid o
      have O_w0_7 := Lib.hid (ownV_later O_w0_6.out b)
      have O_x0_7 := Lib.hid (ownV_later O_x0_6.out b)
      have O_g0_7 := Lib.hid (ownV_later O_g0_6.out b)
      have C7 := Lib.hid (btrans C6.out b)
      clear b C6 o O_w0_6 O_x0_6 O_g0_6
      have FL := Lib.hid trivial
      go_wp2_with (go_at_call 27; have FG := FL; refine (eq_strs l0 x_x0 x_t6 _ (readsS_own O_x0_7.out rfl (by omega)) (readsS_own O_t6_7.out rfl (by omega))).mono ?_; rintro e w8 ⟨rfl, b⟩; clear FL FG)
      have O_w0_8 := Lib.hid (ownV_later O_w0_7.out b)
      have O_x0_8 := Lib.hid (ownV_later O_x0_7.out b)
      have O_g0_8 := Lib.hid (ownV_later O_g0_7.out b)
      have C8 := Lib.hid (btrans C7.out b)
      clear b C7 O_w0_7 O_x0_7 O_g0_7 O_t6_7
      have FL := Lib.hid trivial
      go_wp2_with (go_at_call 28; have FG := FL; refine (smark_any _ l0.length x_x0 _ (by simp) (by omega) 1 (by omega) (by omega) _ O_x0_8.out).mono ?_; rintro e w9 ⟨rfl, _, hg⟩; clear FL FG)
      have O_w0_9 := Lib.hid (O_w0_8.out.kept hg AP_w0_x0.out.1)
      have O_g0_9 := Lib.hid (O_g0_8.out.kept hg AP_x0_g0.out.2)
      have C9 := Lib.hid (below_mark C8.out hg O_x0_8.out SZ_x0.out C8.out.size)
      clear O_w0_8 O_g0_8 O_x0_8 C8 hg
      have FL := Lib.hid trivial
      go_wp2_with (go_at_call 27; have FG := FL; refine (eq_strs rw0 x_g0 x_w0 _ (readsS_own O_g0_9.out rfl (by omega)) (readsS_own O_w0_9.out rfl (by omega))).mono ?_; rintro e w10 ⟨rfl, b⟩; clear FL FG)
      have O_w0_10 := Lib.hid (ownV_later O_w0_9.out b)
      have O_g0_10 := Lib.hid (ownV_later O_g0_9.out b)
      have C10 := Lib.hid (btrans C9.out b)
      clear b C9 O_w0_9 O_g0_9
      have FL := Lib.hid trivial
      go_wp2_with (go_at_call 28; have FG := FL; refine (smark_any _ rw0.length x_g0 _ (by simp) (by omega) 1 (by omega) (by omega) _ O_g0_10.out).mono ?_; rintro e w11 ⟨rfl, o, hg⟩; clear FL FG)
      have O_w0_11 := Lib.hid (O_w0_10.out.kept hg AP_w0_g0.out.1)
      have C11 := Lib.hid (below_mark C10.out hg O_g0_10.out SZ_g0.out C10.out.size)
      have O_g0_11 := Lib.hid o
      clear O_w0_10 O_g0_10 C10 hg o
      have FL := Lib.hid trivial
      go_wp2_with (go_at_call 29; have FG := FL; refine (held_strs rw0.length (by omega) 1 (by omega) (by omega) x_g0 _ (readsS_own O_g0_11.out (smarks_length _ _).symm (by rw [smarks_length]; omega))).mono ?_; rintro e w12 ⟨rfl, b⟩; clear FL FG)
      have O_w0_12 := Lib.hid (ownV_later O_w0_11.out b)
      have O_g0_12 := Lib.hid (ownV_later O_g0_11.out b)
      have C12 := Lib.hid (btrans C11.out b)
      clear b C11 O_w0_11 O_g0_11
      have FL := Lib.hid trivial
      go_wp2_with (go_at_call 26; have FG := FL; refine (to_strs l0 (by omega) _ _ (HR0.out.now C12.out)).mono ?_; rintro e w13 ⟨x_t12, rfl, o, b⟩; clear FL FG)
      have AP_g0_t12 := Lib.hid (apartV_of O_g0_12.out o (Nat.le_refl _))
      have O_t12_13 := Lib.hid o
      have O_w0_13 := Lib.hid (ownV_later O_w0_12.out b)
      have O_g0_13 := Lib.hid (ownV_later O_g0_12.out b)
      have C13 := Lib.hid (btrans C12.out b)
      clear b C12 o O_w0_12 O_g0_12
      have FL := Lib.hid trivial
      go_wp2_with (go_at_call 16; have FG := FL; refine (i_WordsFitting x_t12 l0 a1 _ (readsS_own O_t12_13.out rfl (by omega)) (by omega) (fun z hz => by have := HS0.out z hz; omega) (by omega) (HV.out.later C13.out)).mono ?_; rintro e w14 ⟨rh0, x_h0, HAh, hnh0, rfl, o0, b⟩; obtain rfl := u_WordsFitting HHw.out HAh; clear HAh; clear FL FG)
      have AP_g0_h0 := Lib.hid (apartV_of O_g0_13.out o0 (Nat.le_refl _))
      have O_h0_14 := Lib.hid o0
      have O_w0_14 := Lib.hid (ownV_later O_w0_13.out b)
      have O_g0_14 := Lib.hid (ownV_later O_g0_13.out b)
      have C14 := Lib.hid (btrans C13.out b)
      clear b C13 o0 O_w0_13 O_g0_13 O_t12_13
      have FL := Lib.hid trivial
      go_wp2_with (go_at_call 27; have FG := FL; refine (eq_strs rw0 x_h0 x_w0 _ (readsS_own O_h0_14.out rfl (by omega)) (readsS_own O_w0_14.out rfl (by omega))).mono ?_; rintro e w15 ⟨rfl, b⟩; clear FL FG)
      have O_g0_15 := Lib.hid (ownV_later O_g0_14.out b)
      have C15 := Lib.hid (btrans C14.out b)
      clear b C14 O_w0_14 O_g0_14 O_h0_14
      have FL := Lib.hid trivial
      go_wp2_with (go_at_call 29; have FG := FL; refine (held_strs rw0.length (by omega) 1 (by omega) (by omega) x_g0 _ (readsS_own O_g0_15.out (smarks_length _ _).symm (by rw [smarks_length]; omega))).mono ?_; rintro e w16 ⟨rfl, b⟩; clear FL FG)
      have C16 := Lib.hid (btrans C15.out b)
      clear b C15 O_g0_15
      go_ret
      exact ⟨rfl, C16.out⟩
end Go.Proofs.YthcbaiokomilaaaDoor.fnExactWordsFitting
