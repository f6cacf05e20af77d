/-
  Contract of impl.ReadBytes, whose reader embeds the cursor.
-/
import Derived.Test.YtffjolonpkhmoaaImplRead
import Derived.BigQuiet
import Derived.Deep.RegionWith
namespace Go.Proofs.Ytffjolonpkhmoaa
open Go.RowKit

/-- What readString leaves: the byte string is a part of the input. -/
def RS (l : List Int) (a m : Int) (B g : Nat) (v : Value) (rest : List Value) (T : TypeId) (w : World) (e : Ending) (w' : World) : Prop :=
  ∃ (L : List Int) (ok : Bool) (vd : Value) (a' : Int), ((ok = true ∧ RB l a m L a' true ∧ Reads B w' vd .u8 L) ∨ (ok = false ∧ RB l a m [] 0 false)) ∧ e = .returned (.tuple #[vd, .bool ok]) ∧ RAt w' g v a' rest T ∧ w.grownBy w' (some g)

theorem rat_le {W : World} {g B : Nat} {v : Value} {a : Int} {rest : List Value} {T : TypeId} (h : RAt W g v a rest T) (hB : B ≤ g) : B ≤ W.heap.size := by
  have := lt_of_block h
  omega
theorem _root_.Go.RowKit.Below.drewSet {B g : Nat} {a w : World} (h : Below B a w) (n : Nat) (u : Value) (hB : B ≤ g) {o : Nat} : Below B a ((w.drewN n).setCell ⟨g, o, none⟩ u) :=
  Below.setCell (p := ⟨g, o, none⟩) (⟨h.os, h.tape, h.output, h.size, h.block⟩ : Below B a (w.drewN n)) hB u
/-- A part of a slice of bytes. -/
theorem reads_cut {B : Nat} {W : World} {b off cap q n k : Nat} {l : List Int} (h : Reads B W (.slice (some ⟨b, off, none⟩) l.length cap) .u8 l) (hqn : q + n ≤ l.length) (hk : k = n) :
    Reads B W (.slice (some ⟨b, off + q, none⟩) k k) .u8 ((l.drop q).take n) := by
  subst hk
  have hlen : ((l.drop q).take k).length = k := by simp; omega
  obtain ⟨hm, a0, c0, e, hc, hcell⟩ := h
  cases e
  refine ⟨by omega, _, _, by rw [hlen], ⟨(fun e => by cases e), by omega, by omega⟩, fun j hj => ?_⟩
  obtain ⟨b', off', e1, e2, e3⟩ := hcell (q + j) (by omega)
  cases e1
  refine ⟨b, off + q, rfl, e2, ?_⟩
  rw [Nat.add_assoc, e3]
  simp [List.getD, show j < k by omega]

set_option maxHeartbeats 1600000 in
theorem rstr_any (g B : Nat) (hBg : B ≤ g) (l : List Int) (hl : l.length ≤ 8388608) (hb : ∀ z ∈ l, 0 ≤ z ∧ z ≤ 255) (a m : Int) (v : Value) (T : TypeId) (w : World) (hv : Reads B w v .u8 l) (hk : RAt w g v a [.int .i64 m] T) :
    Calls Try.prog 51 #[.pointer (some ⟨g, 0, none⟩)] w (RS l a m B g v [.int .i64 m] T w) := by
  have HV := Lib.hid hv
  obtain ⟨-, a0, cap, rfl, hnc, hc⟩ := hv
  have HC := Lib.hid hc
  have HNC := Lib.hid hnc
  have HB := Lib.hid hb
  have HK := Lib.hid hk
  clear hc hb hk hnc
  go_enter Try.func51, Try.ntmps51
  go_wp2_with (go_at_call 47; refine (rint_any g B hBg l (by omega) HB.out a _ _ T w HV.out HK.out).mono ?_; rintro e w1 ⟨x, ok, a', HA, rfl, hk1, hg1⟩; have HBL := Lib.hid (below_grown (Below.refl B w) hg1 (rat_le HK.out hBg) hBg); have HK1 := Lib.hid hk1; have c0 := hk1.cell0; have c1 := hk1.cell1; have c2 : w1.cell? ⟨g, 2, none⟩ = some (.int .i64 m) := Joins.cell_of_block hk1 2; have f1 := hk1.free 1; clear hk1; rcases HA with ⟨rfl, hrd⟩ | ⟨rfl, hno⟩)
  · obtain ⟨hn0, hn1, hm0, hm1⟩ := rd_next hrd
    obtain ⟨q, rfl⟩ : ∃ q : Nat, a' = (q : Int) := ⟨a'.toNat, by omega⟩
    obtain ⟨n, rfl⟩ : ∃ n : Nat, x = (n : Int) := ⟨x.toNat, by omega⟩
    have hw : IntKind.i64.wrap ((l.length : Int) - q) = l.length - q := by rw [IntKind.wrap_i64]; omega
    by_cases h1 : (n : Int) ≤ m
    · by_cases h2 : (n : Int) ≤ l.length - q
      · have HY : Hid (RB l a m ((l.drop q).take n) (q + n) true) := Lib.hid (Or.inl ⟨rfl, _, _, hrd, h1, h2, by simp, rfl⟩)
        have hd1 : decide (m < (n : Int)) = false := decide_eq_false (by omega)
        have hd2 : decide ((l.length : Int) - q < (n : Int)) = false := decide_eq_false (by omega)
        have hcp : q + n ≤ cap := by have := HNC.out.2.1; omega
        have hq0 := hrd.1
        clear hrd
        by_cases hn : n = 0
        · subst hn
          have hd1 : decide (m < 0) = false := decide_eq_false (by omega)
          have hd2 : decide ((l.length : Int) - q < 0) = false := decide_eq_false (by omega)
          rename_i hx1 hx2
          clear hx1 hx2
          have HY0 : Hid (RB l a m [] q true) := Lib.hid (by simpa using HY.out)
          clear HY
          go_quiet (fail)
          all_goals go_wp2
          go_quiet (fail)
          all_goals go_wp2
          exact bodyPost_ret (v := .tuple #[.slice a0 0 0, .bool true]) (by simp [results, Try.results51, go_sem]) rfl ⟨[], true, _, (q : Int), Or.inl ⟨rfl, HY0.out, ⟨by simp, a0, 0, rfl, ⟨(fun _ => rfl), by simp, by decide⟩, fun j hj => by simp at hj⟩⟩, rfl, (HK1.out.drewN).set _, grown_set (grown_trans hg1 (grown_drewN _ _ _)) 1 _⟩
        · have HN0 := Lib.hid hn
          obtain ⟨b, off, rfl, hbB, -⟩ := HC.out 0 (by omega)
          go_quiet (fail)
          all_goals go_wp2
          go_quiet (fail)
          all_goals go_wp2
          exact bodyPost_ret (v := .tuple #[.slice (some ⟨b, off + q, none⟩) (q + n - q) (q + n - q), .bool true]) (by simp [results, Try.results51, go_sem]) rfl ⟨_, true, _, (q : Int) + n, Or.inl ⟨rfl, HY.out, reads_cut (HV.out.later (HBL.out.drewSet _ _ hBg)) (by omega) (by omega)⟩, rfl, (HK1.out.drewN).set _, grown_set (grown_trans hg1 (grown_drewN _ _ _)) 1 _⟩
      · have HN : Hid (RB l a m [] 0 false) := Lib.hid (Or.inr ⟨rfl, rfl, rfl, fun n next h hh => by obtain ⟨rfl, rfl⟩ := rd_unique hrd h; exact h2 hh.2⟩)
        have hd1 : decide (m < (n : Int)) = false := decide_eq_false (by omega)
        have hd2 : decide ((l.length : Int) - q < (n : Int)) = true := decide_eq_true (by omega)
        clear hrd h2
        go_quiet (fail)
        all_goals go_wp2
        exact bodyPost_ret (v := .tuple #[.slice none 0 0, .bool false]) (by simp [results, Try.results51, go_sem]) rfl ⟨[], false, _, q, Or.inr ⟨rfl, HN.out⟩, rfl, HK1.out.drewN, grown_trans hg1 (grown_drewN _ _ _)⟩
    · have HN : Hid (RB l a m [] 0 false) := Lib.hid (Or.inr ⟨rfl, rfl, rfl, fun n next h hh => by obtain ⟨rfl, rfl⟩ := rd_unique hrd h; exact h1 hh.1⟩)
      have hd1 : decide (m < (n : Int)) = true := decide_eq_true (by omega)
      clear hrd h1
      go_quiet (fail)
      all_goals go_wp2
      exact bodyPost_ret (v := .tuple #[.slice none 0 0, .bool false]) (by simp [results, Try.results51, go_sem]) rfl ⟨[], false, _, q, Or.inr ⟨rfl, HN.out⟩, rfl, HK1.out.drewN, grown_trans hg1 (grown_drewN _ _ _)⟩
  · have HN : Hid (RB l a m [] 0 false) := Lib.hid (Or.inr ⟨rfl, rfl, rfl, fun n next h => absurd h (hno n next)⟩)
    clear hno
    go_quiet (fail)
    all_goals go_wp2
    exact bodyPost_ret (v := .tuple #[.slice none 0 0, .bool false]) (by simp [results, Try.results51, go_sem]) rfl ⟨[], false, _, a', Or.inr ⟨rfl, HN.out⟩, rfl, HK1.out.drewN, grown_trans hg1 (grown_drewN _ _ _)⟩

set_option maxHeartbeats 1600000 in
theorem i_ReadBytes (v : Value) (l : List Int) (a m : Int) (w : World) (hR : Reads w.heap.size w v .u8 l) (hB : ∀ z ∈ l, 0 ≤ z ∧ z ≤ 255) (hl : l.length ≤ 1048576) (_lo : -9223372036854775808 ≤ a) (_hi : a ≤ 9223372036854775807) (_lo' : -9223372036854775808 ≤ m) (_hi' : m ≤ 9223372036854775807) :
    Calls Try.prog 21 #[v, .int .i64 a, .int .i64 m] w (RBOut l a m w) := by
  have HV := Lib.hid hR
  have HB := Lib.hid hB
  obtain ⟨-, a0, cap, rfl, -, -⟩ := hR
  clear hB
  go_enter Try.func21, Try.ntmps21
  go_wp2_with (go_at_call 51; refine (rstr_any w.heap.size w.heap.size (Nat.le_refl _) l (by omega) HB.out a m _ _ _ (HV.out.later ((Below.refl _ _).alloc (Nat.le_refl _) _)) (RAt.new _ _ _ _ _)).mono ?_; rintro e w1 ⟨L, ok, vd, a', HA, rfl, hk1, hg1⟩; have hb1 := below_grown ((Below.refl w.heap.size w).alloc (Nat.le_refl _) _) hg1 (by simp) (Nat.le_refl _); have HK1 := Lib.hid hk1; have c1 := hk1.cell1; clear hk1 hg1; rcases HA with ⟨rfl, hrb, hrd⟩ | ⟨rfl, hrb⟩)
  · have HN := Lib.hid hrb
    have HR := Lib.hid (hrd.wide hb1.size)
    obtain ⟨-, a1, cap1, rfl, -, -⟩ := hrd
    have hlt : w.heap.size < w1.heap.size := lt_of_block HK1.out
    have hLl : L.length ≤ l.length := by
      rcases hrb with ⟨-, n, nx, h1, h2, h3, rfl, -⟩ | ⟨h, -⟩
      · simp; omega
      · cases h
    clear hrb
    go_region_with (first | (go_at_call 46; refine Calls.mono (clone_any L (by omega) _ _ ?_) ?_; exact HR.out; rintro e w2 ⟨v2, rfl, hown, b2⟩; have c2 := (b2.cell (p := ⟨w.heap.size, 1, none⟩) hlt).trans c1))
    all_goals go_wp2
    all_goals exact bodyPost_ret (v := .tuple #[v2, .int .i64 a', .bool true]) (by simp [results, Try.results21, go_sem]) rfl ⟨L, a', true, v2, HN.out, by omega, rfl, own_wide hown hb1.size, btrans hb1.drew b2⟩
  · have HN := Lib.hid hrb
    clear hrb
    exact bodyPost_ret (v := .tuple #[.slice (some ⟨w1.heap.size, 0, none⟩) 0 0, .int .i64 0, .bool false]) (by simp [results, Try.results21, go_sem]) rfl ⟨[], 0, false, _, HN.out, by simp, rfl, own_wide (own_empty w1 _) hb1.size, hb1.alloc hb1.size _⟩

end Go.Proofs.Ytffjolonpkhmoaa
