/-
  Contract of spec.l1Bytes: what is drawn is bytes, and only the cursor's own block and new memory are written.
-/
import Derived.Test.YtkofmllikneleaaDrawTwo
import Derived.Test.YtkofmllikneleaaBytes
import Derived.Test.YtkofmllikneleaaKit
namespace Go.Proofs.Ytkofmllikneleaa
open Go.RowKit

theorem Cur.lt {B c n cap : Nat} {w : World} {a0 : Option Addr} (hk : Cur B w c n cap a0) : c < w.heap.size := by
  obtain ⟨hB, hc, i, h, hk⟩ := hk
  exact (Array.getElem?_eq_some_iff.1 hk).1
theorem own_not {w : World} {base n c : Nat} {e : TypeId} {v : Value} {xs : List Value} (h : w.ownsRow base e 1 v n xs) (hc : c < base) : v.ownBlock = none ∨ v.ownBlock ≠ some c := by
  cases hv : v.ownBlock with
  | none => exact .inl rfl
  | some k =>
    right
    intro e
    have h1 := (h.lt k hv).1
    cases e
    omega
/-- The cursor stays where an owned row is written. -/
theorem Cur.kept_own {B c n cap base m : Nat} {w w' : World} {a0 : Option Addr} {e : TypeId} {v : Value} {xs : List Value} (hk : Cur B w c n cap a0) (hg : w.grownBy w' v.ownBlock) (ho : w.ownsRow base e 1 v m xs) (hc : c < base) (_hB : B ≤ base) : Cur B w' c n cap a0 := by
  have hlt := hk.lt
  obtain ⟨hBc, hco, i, h, hk⟩ := hk
  refine ⟨hBc, ⟨hco.1, fun j hj => ?_⟩, i, h, ?_⟩
  · obtain ⟨b, off, x, e1, e2, e3, e4⟩ := hco.2 j hj
    exact ⟨b, off, x, e1, e2, hg.cell e3 (fun e => by have := (ho.lt b e.symm).1; omega), e4⟩
  · exact (hg.block c hlt (fun e => by have := (ho.lt c e.symm).1; omega)).trans hk
theorem grown_own {a w w' : World} {c base m : Nat} {e : TypeId} {v : Value} {xs : List Value} (h : a.grownBy w (some c)) (hg : w.grownBy w' v.ownBlock) (ho : w.ownsRow base e 1 v m xs) (hB : a.heap.size ≤ base) : a.grownBy w' (some c) :=
  ⟨hg.os.trans h.os, hg.tape.trans h.tape, hg.output.trans h.output, Nat.le_trans h.size hg.size, fun j hj hn => (hg.block j (Nat.lt_of_lt_of_le hj h.size) (fun e => by have := (ho.lt j e.symm).1; omega)).trans (h.block j hj hn)⟩

/-- What a draw of bytes leaves. -/
def BytesDrawn (B lo hi : Nat) (w : World) (c n cap : Nat) (a0 : Option Addr) (e : Ending) (w' : World) : Prop :=
  ∃ (L : List Int) (v : Value), lo ≤ L.length ∧ L.length ≤ hi ∧ (∀ z ∈ L, 0 ≤ z ∧ z ≤ 255) ∧ e = .returned v ∧ w'.ownsRow w.heap.size 5 1 v L.length (L.map (Value.int .u8)) ∧ Cur B w' c n cap a0 ∧ w.grownBy w' (some c)

set_option maxHeartbeats 800000 in
theorem bytes_any (m : Nat) (hm : m ≤ 65536) (B : Nat) (w : World) (c n cap : Nat) (a0 : Option Addr) (hk : Cur B w c n cap a0) :
    Calls Try.prog 35 #[.pointer (some ⟨c, 0, none⟩), .int .i64 m] w (BytesDrawn B m m w c n cap a0) := by
  obtain ⟨i0, hi, hz0, hz1, hz2⟩ := info_parts infoU8
  have hclt := hk.lt
  have hBc := hk.1
  have HK0 := Lib.hid hk
  clear hk
  go_enter Try.func35, Try.ntmps35
  go_wp2
  go_loopw [5, 6] (fun o i wr => ∃ (k : Nat) (L : List Int), k ≤ m ∧ i = .int .i64 k ∧ L.length = k ∧ Hid (∀ z ∈ L, 0 ≤ z ∧ z ≤ 255) ∧ wr.ownsRow w.heap.size 5 1 o L.length (L.map (Value.int .u8)) ∧ Cur B wr c n cap a0 ∧ w.grownBy wr (some c)) (fun _ i _ => m - (intOf i).toNat)
  case atStart => exact ⟨0, [], Nat.zero_le _, rfl, rfl, Lib.hid (by simp), own_empty w _, HK0.out.alloc _, World.grownBy_alloc w _ _⟩
  case round =>
    obtain ⟨k, L, hkm, rfl, hLk, HB, ho, hk, hg⟩ := hrel
    by_cases hlt : k < m
    · go_wp2_with (first | (go_at_call 47; refine (byte_any B _ c n cap a0 hk).mono ?_; rintro e w1 ⟨v, ⟨x, hx0, hx1, rfl⟩, rfl, hk1, hg1⟩; have ho1 := ho.kept hg1 (own_not ho hclt); have hs1 := hg1.size; have hs0 := hg.size; clear ho hk) | (at_builtin; refine append_reads _ rfl _ _ 22 rfl w.heap.size 5 i0 (.int .u8 0) 1 Try.underlying22 hi hz0 hz1 hz2 rfl _ _ _ rfl (ho1.alloc _) (some ⟨w1.heap.size, 0, none⟩) 1 1 .u8 [_] rfl rfl (fun e => by cases e) (one_src w1 _ .u8 _) (by omega) (by omega) (by simp; omega) ?_; intro v2 w2 hown2 hgrow2))
      have HO : Hid (w2.ownsRow w.heap.size 5 1 v2 (L ++ [x]).length ((L ++ [x]).map (Value.int .u8))) := Lib.hid (by simpa using hown2)
      have HK : Hid (Cur B w2 c n cap a0) := Lib.hid ((hk1.alloc _).kept_own hgrow2 (ho1.alloc _) hclt (by omega))
      have HG : Hid (w.grownBy w2 (some c)) := Lib.hid (grown_own (gtrans (gtrans hg hg1) (World.grownBy_alloc w1 _ _)) hgrow2 (ho1.alloc _) (Nat.le_refl _))
      clear hown2 hgrow2 ho1
      go_roundw
      case rel => exact ⟨k + 1, L ++ [x], by omega, by go_num, by simp; omega, Lib.hid (by
        intro z hz
        rcases List.mem_append.1 hz with h | h
        · exact HB.out z h
        · simp only [List.mem_singleton] at h; subst h; exact ⟨hx0, hx1⟩), HO.out, HK.out, HG.out⟩
      case measure => simp [intOf]; omega
    · go_wp2
      go_ret
      exact ⟨L, _, by omega, by omega, HB.out, rfl, ho, hk, hg⟩

theorem below_grown2 {B c : Nat} {w w' : World} (h : w.grownBy w' (some c)) (hB : B ≤ c) (hw : B ≤ w.heap.size) : Below B w w' :=
  ⟨h.os, h.tape, h.output, h.size, fun k hk => h.block k (by omega) (by simp; omega)⟩

end Go.Proofs.Ytkofmllikneleaa
