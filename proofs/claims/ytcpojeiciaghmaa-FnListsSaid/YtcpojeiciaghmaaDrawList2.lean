/-
  Contract of l5Draw: one entry at least, 21 at most.
-/
import Derived.Test.YtcpojeiciaghmaaDrawList
import Derived.Test.YtcpojeiciaghmaaAddWord
namespace Go.Proofs.Ytcpojeiciaghmaa
open Go.RowKit

theorem words4_w5 : ∀ z ∈ words4, z.size ≤ 5 ∧ isW z = true := by decide
set_option maxHeartbeats 800000 in
theorem ws4w_any (w : World) :
    Calls Try.prog 70 #[] w fun e w' => ∃ o, e = .returned (.slice (some ⟨w.heap.size, 0, none⟩) 35 35) ∧ w' = w.alloc o ∧ ∀ j, j < 35 → ∃ z : ByteArray, (z.size ≤ 5 ∧ isW z = true) ∧ (w.alloc o).cell? ⟨w.heap.size, j, none⟩ = some (.string z) := by
  go_enter Try.func70, Try.ntmps70
  go_wp2
  go_ret
  exact ⟨_, rfl, rfl, fun j hj => row_strs w words4 9 _ words4_w5 j hj⟩
theorem w4w_any (B : Nat) (w : World) (c n cap : Nat) (a0 : Option Addr) (hk : Cur B w c n cap a0) :
    Calls Try.prog 64 #[.pointer (some ⟨c, 0, none⟩)] w (Gives (fun v => ∃ z : ByteArray, (z.size ≤ 5 ∧ isW z = true) ∧ v = .string z) B w c n cap a0) := by
  go_enter Try.func64, Try.ntmps64
  go_wp2_with (first | (go_at_call 70; refine (ws4w_any _).mono ?_; rintro e w1 ⟨o, rfl, rfl, hl⟩) | (go_at_call 65; refine (str_any (fun z => z.size ≤ 5 ∧ isW z = true) w.heap.size 35 (by decide) (by decide) B _ c n cap a0 (hk.alloc _) hk.ne hl).mono ?_; rintro e w2 ⟨v, ⟨z, hz, rfl⟩, rfl, hk1, hg1⟩))
  go_ret
  exact ⟨_, ⟨z, hz, rfl⟩, rfl, hk1, gtrans (World.grownBy_alloc w _ _) hg1⟩
theorem addW_first {x : ByteArray} {f u s : Int} (h1 : isW x = true) (hf : 0 ≤ f) (hf2 : f ≤ 4) (hu : f ≤ u) (hu2 : u ≤ 23) (hs : 0 ≤ s) (hs2 : s ≤ 49) : addW [] (x, f, u, s) = ([(x, f, u, s)], true) := by
  have hi : islW [(x, f, u, s)] = true := by
    refine decide_eq_true ⟨by simp, fun k hk => ?_⟩
    have : k = 0 := by simp at hk; exact hk
    subst this
    refine ⟨?_, fun h => absurd h (by decide)⟩
    show okL (x, f, u, s) = true
    unfold okL
    simp [h1]
    omega
  unfold addW
  rw [if_neg (by simp [findL]), show insW [] (x, f, u, s) = [(x, f, u, s)] from rfl, if_pos hi]
theorem addW_more (l : List (ByteArray × Int × Int × Int)) (x : ByteArray × Int × Int × Int) : l.length ≤ (addW l x).1.length ∧ (addW l x).1.length ≤ l.length + 1 := by
  unfold addW
  split
  · simp
  · split
    · unfold insW; simp; omega
    · simp
theorem addW_mem {l : List (ByteArray × Int × Int × Int)} {x : ByteArray × Int × Int × Int} {P : ByteArray × Int × Int × Int → Prop} (hl : ∀ z ∈ l, P z) (hx : P x) : ∀ z ∈ (addW l x).1, P z := by
  unfold addW
  split
  · exact hl
  · split
    · intro z hz
      unfold insW at hz
      rcases List.mem_append.1 hz with h | h
      · rcases List.mem_append.1 h with h | h
        · exact hl z (List.mem_of_mem_take h)
        · rw [List.mem_singleton] at h; subst h; exact hx
      · exact hl z (List.mem_of_mem_drop h)
    · exact hl
theorem own_notV {w : World} {base n c s : Nat} {e : TypeId} {v : Value} {xs : List Value} (h : w.ownsRow base e s v n xs) (hc : c < base) : v.ownBlock = none ∨ v.ownBlock ≠ some c := by
  cases hv : v.ownBlock with
  | none => exact .inl rfl
  | some k =>
    right
    intro e
    have h1 := (h.lt k hv).1
    cases e
    omega
theorem own_mono {w : World} {base base' : Nat} {e : TypeId} {size : Nat} {v : Value} {n : Nat} {xs : List Value} (h : w.ownsRow base e size v n xs) (hb : base' ≤ base) : w.ownsRow base' e size v n xs :=
  ⟨h.1, h.2.imp id (fun ⟨g, cap, cur, e1, e2, r⟩ => ⟨g, cap, cur, e1, Nat.le_trans hb e2, r⟩)⟩
theorem below_grows {w w' : World} {row : Option Nat} (h : Below w.heap.size w w') : w.grownBy w' row := ⟨h.os, h.tape, h.output, h.size, fun k hk _ => h.block k hk⟩
theorem Cur.below {B c n cap : Nat} {w w' : World} {a0 : Option Addr} (hk : Cur B w c n cap a0) (h : Below w.heap.size w w') : Cur B w' c n cap a0 := by
  have hlt := hk.lt
  have hg : w.grownBy w' none := below_grows h
  obtain ⟨hBc, hco, i, x, hk⟩ := hk
  refine ⟨hBc, ⟨hco.1, fun j hj => ?_⟩, i, x, ?_⟩
  · obtain ⟨b, off, x, e1, e2, e3, e4⟩ := hco.2 j hj
    exact ⟨b, off, x, e1, e2, hg.cell e3 (by simp), e4⟩
  · exact (h.block c hlt).trans hk
/-- What a drawn entry keeps to. -/
def P5 (z : ByteArray × Int × Int × Int) : Prop := z.1.size ≤ 5 ∧ (0 ≤ z.2.1 ∧ z.2.1 ≤ 4) ∧ (0 ≤ z.2.2.1 ∧ z.2.2.1 ≤ 23) ∧ (0 ≤ z.2.2.2 ∧ z.2.2.2 ≤ 49)
def ListDrawn (B : Nat) (w : World) (c n cap : Nat) (a0 : Option Addr) (e : Ending) (w' : World) : Prop :=
  ∃ (L : List (ByteArray × Int × Int × Int)) (v : Value), 1 ≤ L.length ∧ L.length ≤ 21 ∧ (∀ z ∈ L, P5 z) ∧ e = .returned v ∧ w'.ownsRow w.heap.size 32 4 v L.length (row_Listed L) ∧ Cur B w' c n cap a0 ∧ w.grownBy w' (some c)

set_option maxHeartbeats 1600000 in
theorem draw5_any (B : Nat) (w : World) (c n cap : Nat) (a0 : Option Addr) (hk : Cur B w c n cap a0) :
    Calls Try.prog 60 #[.pointer (some ⟨c, 0, none⟩)] w (ListDrawn B w c n cap a0) := by
  have hclt := hk.lt
  have hBc := hk.1
  go_enter Try.func60, Try.ntmps60
  go_wp2_with (go_at_call 47; refine (below_any 20 (by decide) (by decide) B _ c n cap a0 (hk.alloc _)).mono ?_; rintro e w1 ⟨v, ⟨m, hm0, hm1, rfl⟩, rfl, hk1, hg1⟩; clear hk)
  have HK1 := Lib.hid hk1
  have HG1 := Lib.hid (gtrans (World.grownBy_alloc w (.cells #[] 32) (some c)) hg1)
  have HO1 := Lib.hid ((own_emptyV w 32 4).kept hg1 (own_notV (own_emptyV w 32 4) hclt))
  obtain ⟨M, rfl⟩ : ∃ M : Nat, m = (M : Int) := ⟨m.toNat, by omega⟩
  clear hk1 hg1
  go_loopw [3, 4] (fun o i wr => ∃ (k : Nat) (L : List (ByteArray × Int × Int × Int)), k ≤ M + 2 ∧ i = .int .i64 k ∧ L.length + k ≤ 21 ∧ Hid (k < M + 2 → 1 ≤ L.length) ∧ Hid (∀ z ∈ L, P5 z) ∧ Hid (wr.ownsRow w.heap.size 32 4 o L.length (row_Listed L)) ∧ Hid (Cur B wr c n cap a0) ∧ Hid (w.grownBy wr (some c))) (fun _ i _ => (intOf i).toNat)
  case atStart => exact ⟨M + 2, [], Nat.le_refl _, by go_num, by simp; omega, Lib.hid (by omega), Lib.hid (by simp), HO1, HK1, HG1⟩
  case round =>
    obtain ⟨k, L, hk4, rfl, hLk, HL1, HB, HO, HK, HG⟩ := hrel
    by_cases hlt : 0 < k
    · have FA := Lib.hid trivial
      have FB := Lib.hid trivial
      go_wp2_with (first
        | (go_at_call 47; have FC := FA; refine (below_any 5 (by decide) (by decide) B _ c n cap a0 HK.out).mono ?_; rintro e w2 ⟨v, ⟨f, hf0, hf1, rfl⟩, rfl, hk2, hg2⟩; have HK2 := Lib.hid hk2; have HG2 := Lib.hid (gtrans HG.out hg2); have HO2 := Lib.hid (HO.out.kept hg2 (own_notV HO.out hclt)); clear FA FC hk2 hg2)
        | (go_at_call 64; refine (w4w_any B _ c n cap a0 HK2.out).mono ?_; rintro e w3 ⟨v, ⟨z, ⟨hz, hzw⟩, rfl⟩, rfl, hk3, hg3⟩; have HK3 := Lib.hid hk3; have HG3 := Lib.hid (gtrans HG2.out hg3); have HO3 := Lib.hid (HO2.out.kept hg3 (own_notV HO2.out hclt)); have HZW := Lib.hid hzw; clear hk3 hg3 hzw)
        | (go_at_call 47; have FC := FB; refine (below_any 20 (by decide) (by decide) B _ c n cap a0 HK3.out).mono ?_; rintro e w4 ⟨v, ⟨u, hu0, hu1, rfl⟩, rfl, hk4', hg4⟩; have HK4 := Lib.hid hk4'; have HG4 := Lib.hid (gtrans HG3.out hg4); have HO4 := Lib.hid (HO3.out.kept hg4 (own_notV HO3.out hclt)); clear FB FC hk4' hg4)
        | (go_at_call 47; refine (below_any 50 (by decide) (by decide) B _ c n cap a0 HK4.out).mono ?_; rintro e w5 ⟨v, ⟨q, hq0, hq1, rfl⟩, rfl, hk5, hg5⟩; have HK5 := Lib.hid hk5; have HG5 := Lib.hid (gtrans HG4.out hg5); have HO5 := Lib.hid (HO4.out.kept hg5 (own_notV HO4.out hclt)); clear hk5 hg5)
        | (go_at_call 31; refine (sadd_any L z f (f + u) q (by omega) _ _ (reads_Listed_own HO5.out rfl (by omega))).mono ?_; rintro e w6 ⟨v6, rfl, o6, b6⟩; have HK6 := Lib.hid (HK5.out.below b6); have HG6 := Lib.hid (gtrans HG5.out (below_grows b6)); have HO6 := Lib.hid (own_mono o6 HG5.out.size); clear o6 b6))
      have HP5 : P5 (z, f, f + u, q) := by
        show z.size ≤ 5 ∧ (0 ≤ f ∧ f ≤ 4) ∧ (0 ≤ f + u ∧ f + u ≤ 23) ∧ (0 ≤ q ∧ q ≤ 49)
        exact ⟨hz, ⟨hf0, by omega⟩, ⟨by omega, by omega⟩, ⟨hq0, by omega⟩⟩
      have HB6 := Lib.hid (addW_mem HB.out HP5)
      have hm := addW_more L (z, f, f + u, q)
      have HL6 : Hid (1 ≤ (addW L (z, f, f + u, q)).1.length) := Lib.hid (by
        rcases Nat.lt_or_ge 0 L.length with h | h
        · omega
        · have hnil : L = [] := List.length_eq_zero_iff.1 (by omega)
          subst hnil
          rw [addW_first HZW.out (by omega) (by omega) (by omega) (by omega) (by omega) (by omega)]
          exact Nat.le_refl 1)
      obtain ⟨k', rfl⟩ : ∃ k', k = k' + 1 := ⟨k - 1, by omega⟩
      go_roundw
      case rel => exact ⟨k', _, by omega, by go_num, by omega, Lib.hid (fun _ => HL6.out), HB6, HO6, HK6, HG6⟩
      case measure => simp [intOf]
    · have hk0 : k = 0 := by omega
      have h1 := HL1.out (by omega)
      go_wp2
      go_ret
      exact ⟨L, _, h1, by omega, HB.out, rfl, HO.out, HK.out, HG.out⟩
end Go.Proofs.Ytcpojeiciaghmaa
