/-
  Contracts of spec.l1Bytes and of the draws of chapter 2 that the laws call: what is drawn is bytes, and only the cursor's own block and new memory are written.
-/
import Derived.Test.YtffjolonpkhmoaaDrawTwo
import Derived.Test.YtffjolonpkhmoaaTwoSpec
namespace Go.Proofs.Ytffjolonpkhmoaa
open Go.RowKit

theorem Cur.lt {B c n cap : Nat} {w : World} {a0 : Option Addr} (hk : Cur B w c n cap a0) : c < w.heap.size := by
  obtain ⟨hB, hc, i, h, hk⟩ := hk
  exact (Array.getElem?_eq_some_iff.1 hk).1
theorem own_not {w : World} {base n c : Nat} {e : TypeId} {v : Value} {xs : List Value} (h : w.ownsRow base e 1 v n xs) (hc : c < base) : v.ownBlock = none ∨ v.ownBlock ≠ some c := by
  cases hv : v.ownBlock with
  | none => exact .inl rfl
  | some k =>
    right
    intro e
    have h1 := (h.lt k hv).1
    cases e
    omega
/-- The cursor stays where an owned row is written. -/
theorem Cur.kept_own {B c n cap base m : Nat} {w w' : World} {a0 : Option Addr} {e : TypeId} {v : Value} {xs : List Value} (hk : Cur B w c n cap a0) (hg : w.grownBy w' v.ownBlock) (ho : w.ownsRow base e 1 v m xs) (hc : c < base) (_hB : B ≤ base) : Cur B w' c n cap a0 := by
  have hlt := hk.lt
  obtain ⟨hBc, hco, i, h, hk⟩ := hk
  refine ⟨hBc, ⟨hco.1, fun j hj => ?_⟩, i, h, ?_⟩
  · obtain ⟨b, off, x, e1, e2, e3, e4⟩ := hco.2 j hj
    exact ⟨b, off, x, e1, e2, hg.cell e3 (fun e => by have := (ho.lt b e.symm).1; omega), e4⟩
  · exact (hg.block c hlt (fun e => by have := (ho.lt c e.symm).1; omega)).trans hk
theorem grown_own {a w w' : World} {c base m : Nat} {e : TypeId} {v : Value} {xs : List Value} (h : a.grownBy w (some c)) (hg : w.grownBy w' v.ownBlock) (ho : w.ownsRow base e 1 v m xs) (hB : a.heap.size ≤ base) : a.grownBy w' (some c) :=
  ⟨hg.os.trans h.os, hg.tape.trans h.tape, hg.output.trans h.output, Nat.le_trans h.size hg.size, fun j hj hn => (hg.block j (Nat.lt_of_lt_of_le hj h.size) (fun e => by have := (ho.lt j e.symm).1; omega)).trans (h.block j hj hn)⟩

/-- What a draw of bytes leaves. -/
def BytesDrawn (B lo hi : Nat) (w : World) (c n cap : Nat) (a0 : Option Addr) (e : Ending) (w' : World) : Prop :=
  ∃ (L : List Int) (v : Value), lo ≤ L.length ∧ L.length ≤ hi ∧ (∀ z ∈ L, 0 ≤ z ∧ z ≤ 255) ∧ e = .returned v ∧ w'.ownsRow w.heap.size 5 1 v L.length (L.map (Value.int .u8)) ∧ Cur B w' c n cap a0 ∧ w.grownBy w' (some c)

set_option maxHeartbeats 800000 in
theorem bytes_any (m : Nat) (hm : m ≤ 65536) (B : Nat) (w : World) (c n cap : Nat) (a0 : Option Addr) (hk : Cur B w c n cap a0) :
    Calls Try.prog 42 #[.pointer (some ⟨c, 0, none⟩), .int .i64 m] w (BytesDrawn B m m w c n cap a0) := by
  obtain ⟨i0, hi, hz0, hz1, hz2⟩ := info_parts infoU8
  have hclt := hk.lt
  have hBc := hk.1
  have HK0 := Lib.hid hk
  clear hk
  go_enter Try.func42, Try.ntmps42
  go_wp2
  go_loopw [5, 6] (fun o i wr => ∃ (k : Nat) (L : List Int), k ≤ m ∧ i = .int .i64 k ∧ L.length = k ∧ Hid (∀ z ∈ L, 0 ≤ z ∧ z ≤ 255) ∧ wr.ownsRow w.heap.size 5 1 o L.length (L.map (Value.int .u8)) ∧ Cur B wr c n cap a0 ∧ w.grownBy wr (some c)) (fun _ i _ => m - (intOf i).toNat)
  case atStart => exact ⟨0, [], Nat.zero_le _, rfl, rfl, Lib.hid (by simp), own_empty w _, HK0.out.alloc _, World.grownBy_alloc w _ _⟩
  case round =>
    obtain ⟨k, L, hkm, rfl, hLk, HB, ho, hk, hg⟩ := hrel
    by_cases hlt : k < m
    · go_wp2_with (first | (go_at_call 56; refine (byte_any B _ c n cap a0 hk).mono ?_; rintro e w1 ⟨v, ⟨x, hx0, hx1, rfl⟩, rfl, hk1, hg1⟩; have ho1 := ho.kept hg1 (own_not ho hclt); have hs1 := hg1.size; have hs0 := hg.size; clear ho hk) | (at_builtin; refine append_reads _ rfl _ _ 22 rfl w.heap.size 5 i0 (.int .u8 0) 1 Try.underlying22 hi hz0 hz1 hz2 rfl _ _ _ rfl (ho1.alloc _) (some ⟨w1.heap.size, 0, none⟩) 1 1 .u8 [_] rfl rfl (fun e => by cases e) (one_src w1 _ .u8 _) (by omega) (by omega) (by simp; omega) ?_; intro v2 w2 hown2 hgrow2))
      have HO : Hid (w2.ownsRow w.heap.size 5 1 v2 (L ++ [x]).length ((L ++ [x]).map (Value.int .u8))) := Lib.hid (by simpa using hown2)
      have HK : Hid (Cur B w2 c n cap a0) := Lib.hid ((hk1.alloc _).kept_own hgrow2 (ho1.alloc _) hclt (by omega))
      have HG : Hid (w.grownBy w2 (some c)) := Lib.hid (grown_own (gtrans (gtrans hg hg1) (World.grownBy_alloc w1 _ _)) hgrow2 (ho1.alloc _) (Nat.le_refl _))
      clear hown2 hgrow2 ho1
      go_roundw
      case rel => exact ⟨k + 1, L ++ [x], by omega, by go_num, by simp; omega, Lib.hid (by
        intro z hz
        rcases List.mem_append.1 hz with h | h
        · exact HB.out z h
        · simp only [List.mem_singleton] at h; subst h; exact ⟨hx0, hx1⟩), HO.out, HK.out, HG.out⟩
      case measure => simp [intOf]; omega
    · go_wp2
      go_ret
      exact ⟨L, _, by omega, by omega, HB.out, rfl, ho, hk, hg⟩

/-- What DrawAppendUvarint leaves. -/
def DAU (w : World) (e : Ending) (w' : World) : Prop :=
  ∃ (L : List Int) (v : Value) (x : Int), L.length ≤ 2 ∧ (∀ z ∈ L, 0 ≤ z ∧ z ≤ 255) ∧ LO ≤ x ∧ x ≤ HI ∧ e = .returned (.tuple #[v, .int .i64 x]) ∧ w'.ownsRow w.heap.size 5 1 v L.length (L.map (Value.int .u8)) ∧ Below w.heap.size w w'
theorem below_grown2 {B c : Nat} {w w' : World} (h : w.grownBy w' (some c)) (hB : B ≤ c) (hw : B ≤ w.heap.size) : Below B w w' :=
  ⟨h.os, h.tape, h.output, h.size, fun k hk => h.block k (by omega) (by simp; omega)⟩

set_option maxHeartbeats 800000 in
theorem dau_any (n cap : Nat) (a0 : Option Addr) (w : World) (hc : Code w.heap.size w a0 n) (hn : n ≤ 1048576) :
    Calls Try.prog 13 #[.slice a0 n cap] w (DAU w) := by
  go_enter Try.func13, Try.ntmps13
  go_wp2_with (first | (go_at_call 41; refine (new_any n cap a0 _ hc hn).mono ?_; rintro e w1 ⟨c, rfl, hk, hb⟩) | (go_at_call 43; refine (below_any 3 (by decide) (by decide) _ _ c n cap a0 hk).mono ?_; rintro e w2 ⟨v, ⟨x, hx0, hx1, rfl⟩, rfl, hk2, hg2⟩; obtain ⟨m, rfl⟩ : ∃ m : Nat, x = (m : Int) := ⟨x.toNat, by omega⟩))
  go_wp2_with (first | (go_at_call 42; refine (bytes_any m (by omega) _ _ c n cap a0 hk2).mono ?_; rintro e w3 ⟨L, v3, hL0, hL1, hLB, rfl, ho3, hk3, hg3⟩) | (go_at_call 44; refine (one_any _ _ c n cap a0 hk3).mono ?_; rintro e w4 ⟨v, ⟨y, hy0, hy1, rfl⟩, rfl, hk4, hg4⟩))
  have hs := hb.size
  have hs2 := hg2.size
  go_ret2
  exact ⟨L, v3, y, by omega, hLB, hy0, hy1, rfl, own_wide (ho3.kept hg4 (own_not ho3 hk2.lt)) (by omega), hb.trans (below_grown2 (gtrans (gtrans hg2 hg3) hg4) hk4.1 hb.size)⟩

/-- What DrawAppendBytes leaves. -/
def DAB (w : World) (e : Ending) (w' : World) : Prop :=
  ∃ (L D : List Int) (v u : Value), L.length ≤ 2 ∧ D.length ≤ 5 ∧ (∀ z ∈ L, 0 ≤ z ∧ z ≤ 255) ∧ (∀ z ∈ D, 0 ≤ z ∧ z ≤ 255) ∧ e = .returned (.tuple #[v, u]) ∧ w'.ownsRow w.heap.size 5 1 v L.length (L.map (Value.int .u8)) ∧ w'.ownsRow w.heap.size 5 1 u D.length (D.map (Value.int .u8)) ∧ Below w.heap.size w w'
set_option maxHeartbeats 800000 in
theorem dab_any (n cap : Nat) (a0 : Option Addr) (w : World) (hc : Code w.heap.size w a0 n) (hn : n ≤ 1048576) :
    Calls Try.prog 19 #[.slice a0 n cap] w (DAB w) := by
  go_enter Try.func19, Try.ntmps19
  go_wp2_with (first | (go_at_call 41; refine (new_any n cap a0 _ hc hn).mono ?_; rintro e w1 ⟨c, rfl, hk, hb⟩) | (go_at_call 43; refine (below_any 3 (by decide) (by decide) _ _ c n cap a0 hk).mono ?_; rintro e w2 ⟨v, ⟨x, hx0, hx1, rfl⟩, rfl, hk2, hg2⟩; obtain ⟨m, rfl⟩ : ∃ m : Nat, x = (m : Int) := ⟨x.toNat, by omega⟩; clear hk))
  go_wp2_with (first | (go_at_call 42; refine (bytes_any m (by omega) _ _ c n cap a0 hk2).mono ?_; rintro e w3 ⟨L, v3, hL0, hL1, hLB, rfl, ho3, hk3, hg3⟩; have hclt := hk2.lt; clear hk2) | (go_at_call 43; refine (below_any 6 (by decide) (by decide) _ _ c n cap a0 hk3).mono ?_; rintro e w4 ⟨v, ⟨y, hy0, hy1, rfl⟩, rfl, hk4, hg4⟩; obtain ⟨k, rfl⟩ : ∃ k : Nat, y = (k : Int) := ⟨y.toNat, by omega⟩; clear hk3))
  have HO4 := Lib.hid (ho3.kept hg4 (own_not ho3 hclt))
  go_wp2_with (go_at_call 42; refine (bytes_any k (by omega) _ _ c n cap a0 hk4).mono ?_; rintro e w5 ⟨D, v5, hD0, hD1, hDB, rfl, ho5, hk5, hg5⟩)
  have hs := hb.size
  have hs2 := hg2.size
  have hs3 := hg3.size
  have hs4 := hg4.size
  go_ret2
  exact ⟨L, D, v3, v5, by omega, by omega, hLB, hDB, rfl, own_wide (HO4.out.kept hg5 (own_not HO4.out hclt)) (by omega), own_wide ho5 (by omega), hb.trans (below_grown2 (gtrans (gtrans (gtrans hg2 hg3) hg4) hg5) hk5.1 hb.size)⟩

theorem uv_byte (n : Int) : ∀ z ∈ uv n, 0 ≤ z ∧ z ≤ 255 := by
  unfold uv
  split
  · exact enc_byte _
  · simp
/-- What DrawReadUvarint leaves. -/
def DRU (w : World) (e : Ending) (w' : World) : Prop :=
  ∃ (L : List Int) (v : Value) (o : Int), L.length ≤ 100 ∧ (∀ z ∈ L, 0 ≤ z ∧ z ≤ 255) ∧ -1 ≤ o ∧ o ≤ 2 ∧ e = .returned (.tuple #[v, .int .i64 o]) ∧ w'.ownsRow w.heap.size 5 1 v L.length (L.map (Value.int .u8)) ∧ Below w.heap.size w w'
def groups : List Int := [128, 255, 0, 1, 127]
theorem groups_in : ∀ z ∈ groups, (0 : Int) ≤ z ∧ z ≤ 255 := by decide
set_option maxHeartbeats 1600000 in
theorem dru_any (n cap : Nat) (a0 : Option Addr) (w : World) (hc : Code w.heap.size w a0 n) (hn : n ≤ 1048576) :
    Calls Try.prog 17 #[.slice a0 n cap] w (DRU w) := by
  obtain ⟨i0, hi, hz0, hz1, hz2⟩ := info_parts infoU8
  go_enter Try.func17, Try.ntmps17
  go_wp2_with (first | (go_at_call 41; refine (new_any n cap a0 _ hc hn).mono ?_; rintro e w1 ⟨c, rfl, hk, hb⟩) | (go_at_call 48; refine (once_any 2 (by decide) (by decide) _ _ c n cap a0 hk).mono ?_; rintro e w2 ⟨v, ⟨b, rfl⟩, rfl, hk2, hg2⟩; clear hk))
  · go_wp2_with (first | (go_at_call 42; refine (bytes_any 1 (by omega) _ _ c n cap a0 hk2).mono ?_; rintro e w3 ⟨L, v3, hL0, hL1, hLB, rfl, ho3, hk3, hg3⟩; have hclt := hk2.lt; clear hk2) | (go_at_call 49; refine (num_any _ _ c n cap a0 hk3).mono ?_; rintro e w4 ⟨v, ⟨x, hx0, hx1, rfl⟩, rfl, hk4, hg4⟩; clear hk3))
    have HO4 := Lib.hid (ho3.kept hg4 (own_not ho3 hclt))
    have hs := hb.size
    have hs2 := hg2.size
    have hs3 := hg3.size
    have hs4 := hg4.size
    have HB4 := Lib.hid (hb.trans (below_grown2 (gtrans (gtrans hg2 hg3) hg4) hk4.1 hb.size))
    go_wp2_with (go_at_call 26; refine (sapp_any L (by omega) x v3 _ (reads_own HO4.out rfl (by omega))).mono ?_; rintro e w5 ⟨v5, rfl, ho5, hb5⟩)
    go_ret2
    exact ⟨L ++ uv x, v5, 1, by have := uv_length x; rw [List.length_append]; omega, (by
      intro z hz
      rcases List.mem_append.1 hz with h | h
      · exact hLB z h
      · exact uv_byte x z h), by decide, by decide, rfl, own_wide ho5 (by omega), btrans HB4.out hb5⟩
  · go_wp2_with (go_at_call 43; refine (below_any 8 (by decide) (by decide) _ _ c n cap a0 (hk2.alloc _)).mono ?_; rintro e w3 ⟨v, ⟨x, hx0, hx1, rfl⟩, rfl, hk3, hg3⟩; obtain ⟨m, rfl⟩ : ∃ m : Nat, x = (m : Int) := ⟨x.toNat, by omega⟩)
    have hclt := hk2.lt
    have hs := hb.size
    have hs2 := hg2.size
    have HG3 : Hid (w1.grownBy w3 (some c)) := Lib.hid (gtrans hg2 (gtrans (World.grownBy_alloc w2 _ _) hg3))
    have HO3 : Hid (w3.ownsRow w2.heap.size 5 1 (.slice (some ⟨w2.heap.size, 0, none⟩) 0 0) 0 []) := Lib.hid ((own_empty w2 _).kept hg3 (own_not (own_empty w2 5) hclt))
    have HK3 := Lib.hid hk3
    have hcB := hk3.1
    have hs23 : w2.heap.size ≤ w3.heap.size := by have := hg3.size; simp at this; omega
    clear hg2 hg3 hk2 hk3
    go_loopw [5, 6] (fun o i wr => ∃ (k : Nat) (L : List Int), k ≤ 7 ∧ i = .int .i64 k ∧ L.length + k ≤ 7 ∧ Hid (∀ z ∈ L, 0 ≤ z ∧ z ≤ 255) ∧ wr.ownsRow w2.heap.size 5 1 o L.length (L.map (Value.int .u8)) ∧ Cur w.heap.size wr c n cap a0 ∧ w1.grownBy wr (some c) ∧ w2.heap.size ≤ wr.heap.size) (fun _ i _ => (intOf i).toNat)
    case atStart => exact ⟨m, [], by omega, rfl, by simp; omega, Lib.hid (by simp), HO3.out, HK3.out, HG3.out, hs23⟩
    case round =>
      obtain ⟨k, L, hkm, rfl, hLk, HB, ho, hk, hg, hs2r⟩ := hrel
      by_cases hlt : 0 < k
      · go_wp2_with (first | (go_at_call 50; go_must (refine (int_any 0 255 wr.heap.size 5 (by decide) (by decide) _ _ c n cap a0 (hk.alloc _) hk.ne (fun j hj => row_ints wr groups 3 0 255 groups_in j hj)).mono ?_); go_must (rintro e w4 ⟨v, ⟨x, hx0, hx1, rfl⟩, rfl, hk4, hg4⟩); go_must (have ho4 := (ho.alloc _).kept hg4 (own_not ho hclt); have hs4 : wr.heap.size ≤ w4.heap.size := Nat.le_trans (by simp) hg4.size; clear ho)) | (at_builtin; go_must (refine append_reads _ rfl _ _ 22 rfl w2.heap.size 5 i0 (.int .u8 0) 1 Try.underlying22 hi hz0 hz1 hz2 rfl _ _ _ rfl (ho4.alloc _) (some ⟨w4.heap.size, 0, none⟩) 1 1 .u8 [_] rfl rfl (fun e => by cases e) (one_src w4 _ .u8 _) (by omega) (by omega) (by simp; omega) ?_); intro v5 w5 hown5 hgrow5))
        have HO : Hid (w5.ownsRow w2.heap.size 5 1 v5 (L ++ [x]).length ((L ++ [x]).map (Value.int .u8))) := Lib.hid (by simpa using hown5)
        have HK : Hid (Cur w.heap.size w5 c n cap a0) := Lib.hid ((hk4.alloc _).kept_own hgrow5 (ho4.alloc _) hclt (by omega))
        have HG : Hid (w1.grownBy w5 (some c)) := Lib.hid (grown_own (gtrans (gtrans (gtrans hg (World.grownBy_alloc wr _ _)) hg4) (World.grownBy_alloc w4 _ _)) hgrow5 (ho4.alloc _) (by omega))
        have hgrow5s : w4.heap.size ≤ w5.heap.size := Nat.le_trans (by simp) hgrow5.size
        clear hown5 hgrow5 ho4
        go_roundw
        case rel => exact ⟨k - 1, L ++ [x], by omega, by go_num, by simp; omega, Lib.hid (by
          intro z hz
          rcases List.mem_append.1 hz with h | h
          · exact HB.out z h
          · simp only [List.mem_singleton] at h; subst h; exact ⟨hx0, hx1⟩), HO.out, HK.out, HG.out, by have := hgrow5s; omega⟩
        case measure => simp [intOf]; omega
      · have HO := Lib.hid ho
        clear ho
        go_wp2_with (go_at_call 43; refine (below_any 4 (by decide) (by decide) _ _ c n cap a0 hk).mono ?_; rintro e w4 ⟨v, ⟨x, hx0, hx1, rfl⟩, rfl, hk4, hg4⟩)
        go_ret2
        exact ⟨L, _, x - 1, by omega, HB.out, by omega, by omega, rfl, own_wide (HO.out.kept hg4 (own_not HO.out hclt)) (by omega), hb.trans (below_grown2 (gtrans hg hg4) hcB hs)⟩
end Go.Proofs.Ytffjolonpkhmoaa
