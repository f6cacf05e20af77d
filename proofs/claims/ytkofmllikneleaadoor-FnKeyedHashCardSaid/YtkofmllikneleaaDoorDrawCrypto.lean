/-
  Contracts of the draws of chapter 3 that the laws call.
-/
import Derived.Test.YtkofmllikneleaaDoorDrawMem
import Derived.Test.YtkofmllikneleaaDoorDrawStr
namespace Go.Proofs.YtkofmllikneleaaDoor
open Go.RowKit

def odd3 : List Int := [-1, 2147483647, 2147483648]
theorem odd3_in : ∀ z ∈ odd3, (-1 : Int) ≤ z ∧ z ≤ 2147483648 := by decide
def low3 : List Int := [0, 1, 2147483646]
theorem low3_in : ∀ z ∈ low3, (-1 : Int) ≤ z ∧ z ≤ 2147483648 := by decide
theorem mul3_in {y z : Int} (h0 : 0 ≤ y) (h1 : y ≤ 999999) (h2 : 0 ≤ z) (h3 : z ≤ 1999) : 0 ≤ y * z ∧ y * z ≤ 1998998001 :=
  ⟨Int.mul_nonneg h0 h2, Int.le_trans (Int.mul_le_mul h1 h3 h2 (by decide)) (by decide)⟩

set_option maxHeartbeats 800000 in
theorem w3_any (B : Nat) (w : World) (c n cap : Nat) (a0 : Option Addr) (hk : Cur B w c n cap a0) :
    Calls Tryd.prog 16 #[.pointer (some ⟨c, 0, none⟩)] w (Gives (IntIn (-1) 2147483648) B w c n cap a0) := by
  go_enter Tryd.func16, Tryd.ntmps16
  go_wp2_with (go_at_call 28; refine (once_any 10 (by decide) (by decide) B _ c n cap a0 hk).mono ?_; rintro e w1 ⟨v, ⟨b, rfl⟩, rfl, hk1, hg1⟩; clear hk)
  · go_wp2_with (go_at_call 29; refine (int_any (-1) 2147483648 w1.heap.size 3 (by decide) (by decide) B _ c n cap a0 (hk1.alloc _) hk1.ne (fun j hj => row_ints w1 odd3 3 (-1) 2147483648 odd3_in j hj)).mono ?_; rintro e w2 ⟨v, ⟨x, hx0, hx1, rfl⟩, rfl, hk2, hg2⟩; clear hk1)
    go_ret
    exact ⟨_, ⟨x, hx0, hx1, rfl⟩, rfl, hk2, gtrans hg1 (gtrans (World.grownBy_alloc w1 _ _) hg2)⟩
  · go_wp2_with (go_at_call 28; refine (once_any 4 (by decide) (by decide) B _ c n cap a0 hk1).mono ?_; rintro e w2 ⟨v, ⟨b, rfl⟩, rfl, hk2, hg2⟩; clear hk1)
    · go_wp2_with (go_at_call 29; refine (int_any (-1) 2147483648 w2.heap.size 3 (by decide) (by decide) B _ c n cap a0 (hk2.alloc _) hk2.ne (fun j hj => row_ints w2 low3 3 (-1) 2147483648 low3_in j hj)).mono ?_; rintro e w3 ⟨v, ⟨x, hx0, hx1, rfl⟩, rfl, hk3, hg3⟩; clear hk2)
      go_ret
      exact ⟨_, ⟨x, hx0, hx1, rfl⟩, rfl, hk3, gtrans (gtrans hg1 hg2) (gtrans (World.grownBy_alloc w2 _ _) hg3)⟩
    · go_wp2_with (go_at_call 30; refine (below_any 1000000 (by decide) (by decide) B _ c n cap a0 hk2).mono ?_; rintro e w3 ⟨v, ⟨y, hy0, hy1, rfl⟩, rfl, hk3, hg3⟩; clear hk2)
      go_wp2_with (go_at_call 30; refine (below_any 2000 (by decide) (by decide) B _ c n cap a0 hk3).mono ?_; rintro e w4 ⟨v, ⟨z, hz0, hz1, rfl⟩, rfl, hk4, hg4⟩; clear hk3; obtain ⟨hm0, hm1⟩ := mul3_in hy0 (by omega) hz0 (by omega))
      go_ret
      exact ⟨_, ⟨_, by omega, by omega, rfl⟩, rfl, hk4, gtrans (gtrans (gtrans hg1 hg2) hg3) hg4⟩

/-- What a draw of words leaves. -/
def WordsDrawn (B : Nat) (w : World) (c n cap : Nat) (a0 : Option Addr) (e : Ending) (w' : World) : Prop :=
  ∃ (L : List Int) (v : Value), L.length ≤ 4 ∧ (∀ z ∈ L, -1 ≤ z ∧ z ≤ 2147483648) ∧ e = .returned v ∧ w'.ownsRow w.heap.size 3 1 v L.length (L.map (Value.int .i64)) ∧ Cur B w' c n cap a0 ∧ w.grownBy w' (some c)
theorem infoI3 : (Tryd.prog.info? 3).map (fun i => (i.zero, i.size, i.bytes)) = some (some (.int .i64 0), 1, 8) := by kernel_rfl

set_option maxHeartbeats 800000 in
theorem ws3_any (B : Nat) (w : World) (c n cap : Nat) (a0 : Option Addr) (hk : Cur B w c n cap a0) :
    Calls Tryd.prog 17 #[.pointer (some ⟨c, 0, none⟩)] w (WordsDrawn B w c n cap a0) := by
  obtain ⟨i0, hi, hz0, hz1, hz2⟩ := info_parts infoI3
  have hclt := hk.lt
  have hBc := hk.1
  go_enter Tryd.func17, Tryd.ntmps17
  go_wp2_with (go_at_call 30; refine (below_any 5 (by decide) (by decide) B _ c n cap a0 (hk.alloc _)).mono ?_; rintro e w1 ⟨v, ⟨m, hm0, hm1, rfl⟩, rfl, hk1, hg1⟩; clear hk)
  have HK1 := Lib.hid hk1
  have HG1 := Lib.hid (gtrans (World.grownBy_alloc w (.cells #[] 3) (some c)) hg1)
  have HO1 := Lib.hid ((own_empty w 3).kept hg1 (own_not (own_empty w 3) hclt))
  obtain ⟨M, rfl⟩ : ∃ M : Nat, m = (M : Int) := ⟨m.toNat, by omega⟩
  clear hk1 hg1
  go_loopw [3, 4] (fun o i wr => ∃ (k : Nat) (L : List Int), k ≤ 4 ∧ i = .int .i64 k ∧ L.length + k ≤ 4 ∧ Hid (∀ z ∈ L, -1 ≤ z ∧ z ≤ 2147483648) ∧ Hid (wr.ownsRow w.heap.size 3 1 o L.length (L.map (Value.int .i64))) ∧ Hid (Cur B wr c n cap a0) ∧ w.grownBy wr (some c)) (fun _ i _ => (intOf i).toNat)
  case atStart => exact ⟨M, [], by omega, rfl, by simp; omega, Lib.hid (by simp), HO1, HK1, HG1.out⟩
  case round =>
    obtain ⟨k, L, hk4, rfl, hLk, HB, HO, HK, hg⟩ := hrel
    by_cases hlt : 0 < k
    · go_wp2_with (first | (go_at_call 16; refine (w3_any B _ c n cap a0 HK.out).mono ?_; rintro e w2 ⟨v, ⟨x, hx0, hx1, rfl⟩, rfl, hk2, hg2⟩; have ho2 := HO.out.kept hg2 (own_not HO.out hclt); have hs2 := hg2.size; have hs0 := hg.size) | (at_builtin; refine append_reads _ rfl _ _ 24 rfl w.heap.size 3 i0 (.int .i64 0) 8 Tryd.underlying24 hi hz0 hz1 hz2 rfl _ _ _ rfl (ho2.alloc _) (some ⟨w2.heap.size, 0, none⟩) 1 1 .i64 [_] rfl rfl (fun e => by cases e) (one_src w2 _ .i64 _) (by omega) (by omega) (by simp; omega) ?_; intro v2 w3 hown2 hgrow2))
      have HO2 : Hid (w3.ownsRow w.heap.size 3 1 v2 (L ++ [x]).length ((L ++ [x]).map (Value.int .i64))) := Lib.hid (by simpa using hown2)
      have HK2 : Hid (Cur B w3 c n cap a0) := Lib.hid ((hk2.alloc _).kept_own hgrow2 (ho2.alloc _) hclt (by omega))
      have HG : Hid (w.grownBy w3 (some c)) := Lib.hid (grown_own (gtrans (gtrans hg hg2) (World.grownBy_alloc w2 _ _)) hgrow2 (ho2.alloc _) (Nat.le_refl _))
      clear hown2 hgrow2 ho2
      obtain ⟨k', rfl⟩ : ∃ k', k = k' + 1 := ⟨k - 1, by omega⟩
      go_roundw
      case rel => exact ⟨k', L ++ [x], by omega, by go_num, by simp; omega, Lib.hid (by
        intro z hz
        rcases List.mem_append.1 hz with h | h
        · exact HB.out z h
        · simp only [List.mem_singleton] at h; subst h; exact ⟨hx0, hx1⟩), HO2, HK2, HG.out⟩
      case measure => simp [intOf]
    · go_wp2
      go_ret
      exact ⟨L, _, by omega, HB.out, rfl, HO.out, HK.out, hg⟩

/-- What DrawEncrypt leaves. -/
def DRE (w : World) (e : Ending) (w' : World) : Prop :=
  ∃ (x : Int) (D : List Int) (u : Value), -1 ≤ x ∧ x ≤ 2147483648 ∧ D.length ≤ 7 ∧ (∀ z ∈ D, 0 ≤ z ∧ z ≤ 255) ∧ e = .returned (.tuple #[.int .i64 x, u]) ∧ w'.ownsRow w.heap.size 5 1 u D.length (D.map (Value.int .u8)) ∧ Below w.heap.size w w'
/-- What DrawKeyedHash leaves. -/
def DKH (w : World) (e : Ending) (w' : World) : Prop :=
  ∃ (x : Int) (L : List Int) (u : Value), -1 ≤ x ∧ x ≤ 2147483648 ∧ L.length ≤ 4 ∧ (∀ z ∈ L, -1 ≤ z ∧ z ≤ 2147483648) ∧ e = .returned (.tuple #[.int .i64 x, u]) ∧ w'.ownsRow w.heap.size 3 1 u L.length (L.map (Value.int .i64)) ∧ Below w.heap.size w w'
set_option maxHeartbeats 800000 in
theorem dkh_any (n cap : Nat) (a0 : Option Addr) (w : World) (hc : Code w.heap.size w a0 n) (hn : n ≤ 1048576) :
    Calls Tryd.prog 6 #[.slice a0 n cap] w (DKH w) := by
  go_enter Tryd.func6, Tryd.ntmps6
  go_wp2_with (first | (go_at_call 15; refine (new_any n cap a0 _ hc hn).mono ?_; rintro e w1 ⟨c, rfl, hk, hb⟩) | (go_at_call 16; refine (w3_any _ _ c n cap a0 hk).mono ?_; rintro e w2 ⟨v, ⟨x, hx0, hx1, rfl⟩, rfl, hk2, hg2⟩; clear hk) | (go_at_call 17; refine (ws3_any _ _ c n cap a0 hk2).mono ?_; rintro e w3 ⟨L, v3, hL, hLB, rfl, ho3, hk3, hg3⟩; clear hk2))
  have hs := hb.size
  have hs2 := hg2.size
  go_ret2
  exact ⟨x, L, v3, hx0, hx1, hL, hLB, rfl, own_wide ho3 (by omega), hb.trans (below_grown2 (gtrans hg2 hg3) hk3.1 hb.size)⟩

/-- What DrawDeriveFromString leaves. -/
def DDS (w : World) (e : Ending) (w' : World) : Prop :=
  ∃ (x : Int) (t : ByteArray), -1 ≤ x ∧ x ≤ 2147483648 ∧ t.size ≤ 4 ∧ e = .returned (.tuple #[.int .i64 x, .string t]) ∧ Below w.heap.size w w'
def texts3 : List ByteArray := [⟨#[]⟩, ⟨#[97]⟩, ⟨#[98]⟩, ⟨#[97, 98]⟩, ⟨#[110, 101, 119, 115]⟩, ⟨#[120]⟩]
theorem texts3_in : ∀ z ∈ texts3, z.size ≤ 4 := by decide
set_option maxHeartbeats 800000 in
theorem dds_any (n cap : Nat) (a0 : Option Addr) (w : World) (hc : Code w.heap.size w a0 n) (hn : n ≤ 1048576) :
    Calls Tryd.prog 11 #[.slice a0 n cap] w (DDS w) := by
  go_enter Tryd.func11, Tryd.ntmps11
  go_wp2_with (first | (go_at_call 15; refine (new_any n cap a0 _ hc hn).mono ?_; rintro e w1 ⟨c, rfl, hk, hb⟩) | (go_at_call 16; refine (w3_any _ _ c n cap a0 hk).mono ?_; rintro e w2 ⟨v, ⟨x, hx0, hx1, rfl⟩, rfl, hk2, hg2⟩; clear hk) | (go_at_call 21; refine (str_any (fun z => z.size ≤ 4) w2.heap.size 6 (by decide) (by decide) _ _ c n cap a0 (hk2.alloc _) hk2.ne (fun j hj => row_strs w2 texts3 9 _ texts3_in j hj)).mono ?_; rintro e w3 ⟨v, ⟨t, ht, rfl⟩, rfl, hk3, hg3⟩; clear hk2))
  have hs := hb.size
  have hs2 := hg2.size
  go_ret2
  exact ⟨x, t, hx0, hx1, ht, rfl, hb.trans (below_grown2 (gtrans hg2 (gtrans (World.grownBy_alloc w2 _ _) hg3)) hk3.1 hb.size)⟩
end Go.Proofs.YtkofmllikneleaaDoor
