/-
  Contracts of draws of chapter 5: l5Raw, l5Some.
-/
import Derived.Test.YthgnhcjbjdhjfaaDoorDrawWord
import Derived.Test.YthgnhcjbjdhjfaaDoorPatB
namespace Go.Proofs.YthgnhcjbjdhjfaaDoor
open Go.RowKit

def raws5 : List Int := [-1, 0, 99, 100, 1000, 1001, 9223372036854775807, -9223372036854775808]
theorem raws5_in : ∀ z ∈ raws5, LO ≤ z ∧ z ≤ HI := by decide
/-- What l5Some leaves: at most five texts of at most ten bytes. -/
def SomeDrawn (B : Nat) (w : World) (c n cap : Nat) (a0 : Option Addr) (e : Ending) (w' : World) : Prop :=
  ∃ (L : List ByteArray) (v : Value), L.length ≤ 5 ∧ (∀ z ∈ L, z.size ≤ 10) ∧ e = .returned v ∧ w'.ownsRow w.heap.size 9 1 v L.length (L.map Value.string) ∧ Cur B w' c n cap a0 ∧ w.grownBy w' (some c)

set_option maxHeartbeats 800000 in
theorem some5_any (B : Nat) (w : World) (c n cap : Nat) (a0 : Option Addr) (hk : Cur B w c n cap a0) :
    Calls Tryd.prog 42 #[.pointer (some ⟨c, 0, none⟩)] w (SomeDrawn B w c n cap a0) := by
  obtain ⟨i0, hi, hz0, hz1, hz2⟩ := info_parts infoStr
  have hclt := hk.lt
  have hBc := hk.1
  go_enter Tryd.func42, Tryd.ntmps42
  go_wp2_with (go_at_call 72; refine (below_any 6 (by decide) (by decide) B _ c n cap a0 (hk.alloc _)).mono ?_; rintro e w1 ⟨v, ⟨m, hm0, hm1, rfl⟩, rfl, hk1, hg1⟩; clear hk)
  have HK1 := Lib.hid hk1
  have HG1 := Lib.hid (gtrans (World.grownBy_alloc w (.cells #[] 9) (some c)) hg1)
  have HO1 := Lib.hid ((own_empty w 9).kept hg1 (own_not (own_empty w 9) hclt))
  obtain ⟨M, rfl⟩ : ∃ M : Nat, m = (M : Int) := ⟨m.toNat, by omega⟩
  clear hk1 hg1
  go_loopw [3, 4] (fun o i wr => ∃ (k : Nat) (L : List ByteArray), k ≤ 5 ∧ i = .int .i64 k ∧ L.length + k ≤ 5 ∧ Hid (∀ z ∈ L, z.size ≤ 10) ∧ Hid (wr.ownsRow w.heap.size 9 1 o L.length (L.map Value.string)) ∧ Hid (Cur B wr c n cap a0) ∧ w.grownBy wr (some c)) (fun _ i _ => (intOf i).toNat)
  case atStart => exact ⟨M, [], by omega, rfl, by simp; omega, Lib.hid (by simp), HO1, HK1, HG1.out⟩
  case round =>
    obtain ⟨k, L, hk4, rfl, hLk, HB, HO, HK, hg⟩ := hrel
    by_cases hlt : 0 < k
    · go_wp2_with (first | (go_at_call 73; refine (a4_any B _ c n cap a0 HK.out).mono ?_; rintro e w2 ⟨v, ⟨x, hx0, rfl⟩, rfl, hk2, hg2⟩; have ho2 := HO.out.kept hg2 (own_not HO.out hclt); have hs2 := hg2.size; have hs0 := hg.size) | (at_builtin; refine appendV_reads _ rfl _ _ 28 rfl w.heap.size 9 i0 (.string ⟨#[]⟩) 1 16 Tryd.underlying28 hi hz0 hz1 hz2 rfl (by decide) _ _ _ rfl (ho2.alloc _) (some ⟨w2.heap.size, 0, none⟩) 1 1 [.string x] rfl rfl (by simp [Value.oneCell']) (fun e => by cases e) (one_srcP w2 _ _) (by omega) (by omega) (by simp; omega) ?_; intro v2 w3 hown2 hgrow2))
      have HO2 : Hid (w3.ownsRow w.heap.size 9 1 v2 (L ++ [x]).length ((L ++ [x]).map Value.string)) := Lib.hid (by simpa using hown2)
      have HK2 : Hid (Cur B w3 c n cap a0) := Lib.hid ((hk2.alloc _).kept_own hgrow2 (ho2.alloc _) hclt (by omega))
      have HG : Hid (w.grownBy w3 (some c)) := Lib.hid (grown_own (gtrans (gtrans hg hg2) (World.grownBy_alloc w2 _ _)) hgrow2 (ho2.alloc _) (Nat.le_refl _))
      clear hown2 hgrow2 ho2
      obtain ⟨k', rfl⟩ : ∃ k', k = k' + 1 := ⟨k - 1, by omega⟩
      go_roundw
      case rel => exact ⟨k', L ++ [x], by omega, by go_num, by simp; omega, Lib.hid (by
        intro z hz
        rcases List.mem_append.1 hz with h | h
        · exact HB.out z h
        · simp only [List.mem_singleton] at h; subst h; exact hx0), HO2, HK2, HG.out⟩
      case measure => simp [intOf]
    · go_wp2
      go_ret
      exact ⟨L, _, by omega, HB.out, rfl, HO.out, HK.out, hg⟩
end Go.Proofs.YthgnhcjbjdhjfaaDoor
