/-
  The walk of the law FnExactScoreOf: true at every argument, by the contracts of spec.ScoreOf and impl.ScoreOf.
-/
import Derived.Test.YtcpojeiciaghmaaListImpl
namespace Go.Proofs.Ytcpojeiciaghmaa.fnExactScoreOf
open Go.RowKit

theorem below_mark {B base n s : Nat} {a w w' : World} {e : TypeId} {v : Value} {xs : List Value} (h : Below B a w) (hg : w.grownBy w' v.ownBlock) (ho : w.ownsRow base e s v n xs) (hB : B ≤ base) (hw : B ≤ w.heap.size) : Below B a w' :=
  h.grown hg hw (fun k hk => Nat.le_trans hB (ho.lt k hk).1)

set_option maxRecDepth 100000 in
set_option maxHeartbeats 3200000 in
theorem walk (v0 : Value) (l0 : List (ByteArray × Int × Int × Int)) (v1 : Value) (l1 : List ByteArray) (w : World) (hR0 : ReadsListed w.heap.size w v0 l0) (hB0 : ∀ z ∈ l0, ok_Listed z) (hR1 : ReadsS w.heap.size w v1 l1) (hB1 : ∀ z ∈ l1, z.size ≤ maxLen) :
    Calls Try.prog 8 #[v0, v1] w fun e w' => e = .returned (.bool true) ∧ Below w.heap.size w w' := by
  obtain ⟨a00, cap0, rfl⟩ : ∃ a0 cap, v0 = .slice a0 l0.length cap := ⟨hR0.2.2.choose, hR0.2.2.choose_spec.choose, hR0.2.2.choose_spec.choose_spec.1⟩
  have HR0 := Lib.hid hR0
  have HB0 := Lib.hid hB0
  have hlen0 := hR0.1
  clear hR0 hB0
  obtain ⟨a01, cap1, rfl⟩ : ∃ a0 cap, v1 = .slice a0 l1.length cap := ⟨hR1.2.2.choose, hR1.2.2.choose_spec.choose, hR1.2.2.choose_spec.choose_spec.1⟩
  have HR1 := Lib.hid hR1
  have HB1 := Lib.hid hB1
  have hlen1 := hR1.1
  clear hR1 hB1
  go_enter Try.func8, Try.ntmps8
  have C0 := Lib.hid (Below.refl w.heap.size w)
  have FL := Lib.hid trivial
  go_wp2_with (go_at_call 21; have FG := FL; refine (sz_ListedS l0 1048576 (by omega) (by omega) _ _ (fun z hz => (HB0.out z hz).1) (HR0.out.now C0.out)).mono ?_; rintro e w1 ⟨rl1, HL0, rfl, b⟩; have HLL0 := Lib.hid HL0; clear HL0; clear FL FG)
  · go_ret
    exact ⟨rfl, (btrans C0.out b)⟩
  · have hr1 : 0 ≤ rl1 := by omega
    have hle1 := (HLL0.out.2 hr1).1
    have hsl0 := (HLL0.out.2 hr1).2.1
    have HS0 := Lib.hid (fun z hz => (show (_ : Int) ≤ 1048576 from Int.le_trans ((HLL0.out.2 hr1).2.2 z hz) (by omega)))
    have C1 := Lib.hid (btrans C0.out b)
    clear b C0
    have FL := Lib.hid trivial
    go_wp2_with (go_at_call 35; have FG := FL; refine (sz_strs l1 rl1 (by omega) (by omega) _ _ HB1.out (HR1.out.now C1.out)).mono ?_; rintro e w2 ⟨rl2, HL1, rfl, rfl⟩; have HLL1 := Lib.hid HL1; clear HL1; clear FL FG)
    · go_ret
      exact ⟨rfl, C1.out⟩
    · have hr2 : 0 ≤ rl2 := by omega
      have hle2 := (HLL1.out.2 hr2).1
      have hsl1 := (HLL1.out.2 hr2).2.1
      have HS1 := Lib.hid (fun z hz => (show (_ : Int) ≤ 1048576 from Int.le_trans ((HLL1.out.2 hr2).2.2 z hz) (by omega)))
      have FL := Lib.hid trivial
      go_wp2_with (go_at_call 23; have FG := FL; refine (to_ListedS l0 (by omega) _ _ (HR0.out.now C1.out)).mono ?_; rintro e w3 ⟨x_t2, rfl, o, b⟩; clear FL FG)
      have O_t2_3 := Lib.hid o
      have C3 := Lib.hid (btrans C1.out b)
      clear b C1 o
      have FL := Lib.hid trivial
      go_wp2_with (go_at_call 37; have FG := FL; refine (to_strs l1 (by omega) _ _ (HR1.out.now C3.out)).mono ?_; rintro e w4 ⟨x_t3, rfl, o, b⟩; clear FL FG)
      have O_t3_4 := Lib.hid o
      have O_t2_4 := Lib.hid (ownV_later O_t2_3.out b)
      have C4 := Lib.hid (btrans C3.out b)
      clear b C3 o O_t2_3
      have FL := Lib.hid trivial
      go_wp2_with (go_at_call 36; have FG := FL; refine (s_ScoreOf x_t2 l0 x_t3 l1 _ (reads_Listed_own O_t2_4.out rfl (by omega)) HB0.out (by omega) (fun z hz => by have := HS0.out z hz; omega) (readsS_own O_t3_4.out rfl (by omega)) (by omega) (fun z hz => by have := HS1.out z hz; omega)).mono ?_; rintro e w5 ⟨rw0, HAw, rfl, b⟩; have HHw := Lib.hid HAw; clear HAw; clear FL FG)
      have C5 := Lib.hid (btrans C4.out b)
      clear b C4 O_t2_4 O_t3_4
      have FL := Lib.hid trivial
      go_wp2_with (go_at_call 23; have FG := FL; refine (to_ListedS l0 (by omega) _ _ (HR0.out.now C5.out)).mono ?_; rintro e w6 ⟨x_x0, rfl, o, b⟩; clear FL FG)
      have O_x0_6 := Lib.hid o
      have C6 := Lib.hid (btrans C5.out b)
      clear b C5 o
      have FL := Lib.hid trivial
      go_wp2_with (go_at_call 37; have FG := FL; refine (to_strs l1 (by omega) _ _ (HR1.out.now C6.out)).mono ?_; rintro e w7 ⟨x_x1, rfl, o, b⟩; clear FL FG)
      have O_x1_7 := Lib.hid o
      have O_x0_7 := Lib.hid (ownV_later O_x0_6.out b)
      have C7 := Lib.hid (btrans C6.out b)
      clear b C6 o O_x0_6
      have FL := Lib.hid trivial
      go_wp2_with (go_at_call 20; have FG := FL; refine (i_ScoreOf x_x0 l0 x_x1 l1 _ (reads_Listed_own O_x0_7.out rfl (by omega)) HB0.out (by omega) (fun z hz => by have := HS0.out z hz; omega) (readsS_own O_x1_7.out rfl (by omega)) (by omega) (fun z hz => by have := HS1.out z hz; omega)).mono ?_; rintro e w8 ⟨rg0, HAg, rfl, b⟩; obtain rfl := u_ScoreOf HHw.out HAg; clear HAg; clear FL FG)
      have O_x0_8 := Lib.hid (ownV_later O_x0_7.out b)
      have O_x1_8 := Lib.hid (ownV_later O_x1_7.out b)
      have C8 := Lib.hid (btrans C7.out b)
      clear b C7 O_x0_7 O_x1_7
      have FL := Lib.hid trivial
      go_wp2_with (go_at_call 23; have FG := FL; refine (to_ListedS l0 (by omega) _ _ (HR0.out.now C8.out)).mono ?_; rintro e w9 ⟨x_t8, rfl, o, b⟩; clear FL FG)
      have O_t8_9 := Lib.hid o
      have O_x0_9 := Lib.hid (ownV_later O_x0_8.out b)
      have O_x1_9 := Lib.hid (ownV_later O_x1_8.out b)
      have C9 := Lib.hid (btrans C8.out b)
      clear b C8 o O_x0_8 O_x1_8
      have FL := Lib.hid trivial
      go_wp2_with (go_at_call 24; have FG := FL; refine (eq_ListedS l0 x_x0 x_t8 _ (reads_Listed_own O_x0_9.out rfl (by omega)) (reads_Listed_own O_t8_9.out rfl (by omega))).mono ?_; rintro e w10 ⟨rfl, b⟩; clear FL FG)
      have O_x1_10 := Lib.hid (ownV_later O_x1_9.out b)
      have C10 := Lib.hid (btrans C9.out b)
      clear b C9 O_x0_9 O_x1_9 O_t8_9
      have FL := Lib.hid trivial
      go_wp2_with (go_at_call 37; have FG := FL; refine (to_strs l1 (by omega) _ _ (HR1.out.now C10.out)).mono ?_; rintro e w11 ⟨x_t10, rfl, o, b⟩; clear FL FG)
      have O_t10_11 := Lib.hid o
      have O_x1_11 := Lib.hid (ownV_later O_x1_10.out b)
      have C11 := Lib.hid (btrans C10.out b)
      clear b C10 o O_x1_10
      have FL := Lib.hid trivial
      go_wp2_with (go_at_call 26; have FG := FL; refine (eq_strs l1 x_x1 x_t10 _ (readsS_own O_x1_11.out rfl (by omega)) (readsS_own O_t10_11.out rfl (by omega))).mono ?_; rintro e w12 ⟨rfl, b⟩; clear FL FG)
      have C12 := Lib.hid (btrans C11.out b)
      clear b C11 O_x1_11 O_t10_11
      go_ret
      exact ⟨rfl, C12.out⟩
end Go.Proofs.Ytcpojeiciaghmaa.fnExactScoreOf
