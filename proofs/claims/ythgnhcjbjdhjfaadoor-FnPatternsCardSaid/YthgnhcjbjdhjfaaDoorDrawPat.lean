/-
  Contracts of the draws of chapter 6.
-/
import Derived.Test.YthgnhcjbjdhjfaaDoorDrawList
namespace Go.Proofs.YthgnhcjbjdhjfaaDoor
open Go.RowKit

set_option maxHeartbeats 800000 in
theorem draw6_any (B : Nat) (w : World) (c n cap : Nat) (a0 : Option Addr) (hk : Cur B w c n cap a0) :
    Calls Tryd.prog 67 #[.pointer (some ⟨c, 0, none⟩)] w (Gives (Txt 5) B w c n cap a0) := by
  go_enter Tryd.func67, Tryd.ntmps67
  go_wp2_with (go_at_call 96; refine (w4_any B _ c n cap a0 hk).mono ?_; rintro e w1 ⟨v, ⟨x, hx, rfl⟩, rfl, hk1, hg1⟩)
  have HK1 := Lib.hid hk1
  have HG1 := Lib.hid hg1
  clear hk hk1 hg1
  go_loopw [4, 5] (fun p i wr => ∃ (k : Nat) (y : ByteArray), k ≤ x.size ∧ i = .int .i64 k ∧ p = .string y ∧ y.size = k ∧ Hid (Cur B wr c n cap a0) ∧ Hid (w.grownBy wr (some c))) (fun _ i _ => x.size - (intOf i).toNat)
  case atStart => exact ⟨0, ⟨#[]⟩, Nat.zero_le _, rfl, rfl, rfl, HK1, HG1⟩
  case round =>
    obtain ⟨k, y, hkx, rfl, rfl, hy, HK, HG⟩ := hrel
    by_cases hlt : k < x.size
    · go_wp2_with (go_at_call 41; refine (once_any 2 (by decide) (by decide) _ _ c n cap a0 HK.out).mono ?_; rintro e w3 ⟨v, ⟨b, rfl⟩, rfl, hk3, hg3⟩)
      · have HG3 := Lib.hid (gtrans HG.out hg3)
        have HK3 := Lib.hid hk3
        clear hg3 hk3
        have hs1 : (y ++ (⟨#[63]⟩ : ByteArray)).size = k + 1 := by rw [ByteArray.size_append, hy]; rfl
        go_wp2
        go_roundw
        case rel => exact ⟨k + 1, _, by omega, by go_num, rfl, hs1, HK3, HG3⟩
        case measure => simp [intOf]; omega
      · have HG3 := Lib.hid (gtrans HG.out hg3)
        have HK3 := Lib.hid hk3
        clear hg3 hk3
        have hs1 : (y ++ x.extract k (k + 1)).size = k + 1 := by rw [ByteArray.size_append, hy, ByteArray.size_extract]; omega
        go_wp2
        go_roundw
        case rel => exact ⟨k + 1, _, by omega, by go_num, rfl, hs1, HK3, HG3⟩
        case measure => simp [intOf]; omega
    · go_wp2
      go_ret
      exact ⟨_, ⟨y, by omega, rfl⟩, rfl, HK.out, HG.out⟩
def any6 (z : ByteArray) : List ByteArray := [z, z, z, z, z, ⟨#[]⟩, ⟨#[63]⟩, ⟨#[65, 63]⟩, ⟨#[63, 63, 63, 63, 63, 63, 63, 63, 63]⟩, ⟨#[63, 63, 63, 63, 63, 63, 63, 63]⟩]
theorem any6_in {z : ByteArray} (hz : z.size ≤ 5) : ∀ y ∈ any6 z, y.size ≤ 10 := by
  intro y hy
  simp only [any6, List.mem_cons, List.not_mem_nil, or_false] at hy
  rcases hy with rfl | rfl | rfl | rfl | rfl | rfl | rfl | rfl | rfl | rfl <;> first | omega | decide
set_option maxHeartbeats 800000 in
theorem a6_any (B : Nat) (w : World) (c n cap : Nat) (a0 : Option Addr) (hk : Cur B w c n cap a0) :
    Calls Tryd.prog 36 #[.pointer (some ⟨c, 0, none⟩)] w (Gives (Txt 10) B w c n cap a0) := by
  go_enter Tryd.func36, Tryd.ntmps36
  go_wp2_with (first | (go_at_call 67; refine (draw6_any B _ c n cap a0 hk).mono ?_; rintro e w1 ⟨v, ⟨z, hz, rfl⟩, rfl, hk1, hg1⟩) | (go_at_call 68; refine (str_any (fun z => z.size ≤ 10) w1.heap.size 10 (by decide) (by decide) B _ c n cap a0 (hk1.alloc _) hk1.ne (fun j hj => row_strs w1 (any6 z) 9 _ (any6_in hz) j hj)).mono ?_; rintro e w2 ⟨v, ⟨y, hy, rfl⟩, rfl, hk2, hg2⟩))
  go_ret
  exact ⟨_, ⟨y, hy, rfl⟩, rfl, hk2, gtrans hg1 (gtrans (World.grownBy_alloc w1 _ _) hg2)⟩
set_option maxHeartbeats 800000 in
theorem dmp_any (n cap : Nat) (a0 : Option Addr) (w : World) (hc : Code w.heap.size w a0 n) (hn : n ≤ 1048576) :
    Calls Tryd.prog 8 #[.slice a0 n cap] w (Txts w) := by
  go_enter Tryd.func8, Tryd.ntmps8
  have FL := Lib.hid trivial
  go_wp2_with (first | (go_at_call 35; refine (new_any n cap a0 _ hc hn).mono ?_; rintro e w1 ⟨c, rfl, hk, hb⟩) | (go_at_call 36; have FG := FL; refine (a6_any _ _ c n cap a0 hk).mono ?_; rintro e w2 ⟨v, ⟨x, hx, rfl⟩, rfl, hk2, hg2⟩; clear FL FG hk))
  go_wp2_with (go_at_call 36; refine (a6_any _ _ c n cap a0 hk2).mono ?_; rintro e w3 ⟨v, ⟨y, hy, rfl⟩, rfl, hk3, hg3⟩)
  go_ret2
  exact ⟨x, y, hx, hy, rfl, hb.trans (below_grown2 (gtrans hg2 hg3) hk3.1 hb.size)⟩

theorem pick_strs {W : World} {b m : Nat} : ∀ n, (∀ j, j < n → ∃ z : ByteArray, z.size ≤ m ∧ W.cell? ⟨b, j, none⟩ = some (.string z)) → ∃ L : List ByteArray, L.length = n ∧ (∀ z ∈ L, z.size ≤ m) ∧ ∀ j, j < n → W.cell? ⟨b, j, none⟩ = some (.string (L.getD j ⟨#[]⟩))
  | 0, _ => ⟨[], rfl, by simp, fun j hj => by omega⟩
  | n + 1, h => by
    obtain ⟨L, h1, h2, h3⟩ := pick_strs n (fun j hj => h j (by omega))
    obtain ⟨z, hz, hc⟩ := h n (by omega)
    refine ⟨L ++ [z], by simp [h1], fun y hy => ?_, fun j hj => ?_⟩
    · rcases List.mem_append.1 hy with h4 | h4
      · exact h2 y h4
      · simp only [List.mem_singleton] at h4; subst h4; exact hz
    · rcases Nat.lt_or_ge j n with h4 | h4
      · rw [h3 j h4, List.getD_eq_getElem?_getD, List.getD_eq_getElem?_getD, List.getElem?_append_left (by omega)]
      · obtain rfl : j = n := by omega
        rw [hc, List.getD_eq_getElem?_getD, List.getElem?_append_right (by omega), h1]
        simp
theorem readsS_cells {W : World} {b n : Nat} {L : List ByteArray} (hb : b < W.heap.size) (hn : n ≤ 1048576) (hL : L.length = n) (h : ∀ j, j < n → W.cell? ⟨b, j, none⟩ = some (.string (L.getD j ⟨#[]⟩))) : ReadsS W.heap.size W (.slice (some ⟨b, 0, none⟩) n n) L := by
  refine ⟨by omega, by simp, _, _, by rw [hL], ⟨(fun e => by cases e), by omega, by omega⟩, fun j hj => ⟨b, 0, rfl, hb, ?_⟩⟩
  rw [Nat.mul_one, hL] at hj
  rw [Nat.zero_add, h j hj, List.getElem?_map, List.getD_eq_getElem?_getD, List.getElem?_eq_getElem (by omega)]
  rfl
/-- Words and a text. -/
def WordsText (w : World) (e : Ending) (w' : World) : Prop :=
  ∃ (L : List ByteArray) (v : Value) (x : ByteArray), L.length ≤ 35 ∧ (∀ z ∈ L, z.size ≤ 10) ∧ x.size ≤ 10 ∧ e = .returned (.tuple #[v, .string x]) ∧ ReadsS w'.heap.size w' v L ∧ Below w.heap.size w w'
set_option maxHeartbeats 1600000 in
theorem dwf_any (n cap : Nat) (a0 : Option Addr) (w : World) (hc : Code w.heap.size w a0 n) (hn : n ≤ 1048576) :
    Calls Tryd.prog 10 #[.slice a0 n cap] w (WordsText w) := by
  go_enter Tryd.func10, Tryd.ntmps10
  go_wp2_with (first | (go_at_call 35; refine (new_any n cap a0 _ hc hn).mono ?_; rintro e w1 ⟨c, rfl, hk, hb⟩) | (go_at_call 36; refine (a6_any _ _ c n cap a0 hk).mono ?_; rintro e w2 ⟨v, ⟨x, hx, rfl⟩, rfl, hk2, hg2⟩; clear hk) | (go_at_call 40; refine (ws4_any _).mono ?_; rintro e w3 ⟨o, rfl, rfl, hl⟩; have HL := Lib.hid hl; clear hl) | (go_at_call 41; refine (once_any 3 (by decide) (by decide) _ _ c n cap a0 (hk2.alloc _)).mono ?_; rintro e w4 ⟨v, ⟨b, rfl⟩, rfl, hk4, hg4⟩))
  · go_wp2_with (go_at_call 42; refine (some5_any _ _ c n cap a0 hk4).mono ?_; rintro e w5 ⟨L, v, hL5, hLz, rfl, ho, hk5, hg5⟩)
    go_ret2
    have h1 := hb.trans (below_grown2 (gtrans hg2 (gtrans (World.grownBy_alloc w2 o _) (gtrans hg4 hg5))) hk5.1 hb.size)
    exact ⟨L, v, x, by omega, hLz, hx, rfl, readsS_own ho rfl (by omega), h1⟩
  · have hgz : w2.heap.size < w4.heap.size := by have := hg4.size; simp at this; omega
    have hne : (⟨w2.heap.size, 0, none⟩ : Addr).block ≠ c := by have := hk2.lt; simp; omega
    obtain ⟨L, h1, h2, h3⟩ := pick_strs 35 HL.out
    have h4 : ReadsS w4.heap.size w4 (.slice (some ⟨w2.heap.size, 0, none⟩) 35 35) L := readsS_cells hgz (by decide) h1 (fun j hj => hg4.cell (h3 j hj) (by simpa using hne))
    have h5 := hb.trans (below_grown2 (gtrans hg2 (gtrans (World.grownBy_alloc w2 o _) hg4)) hk4.1 hb.size)
    go_ret2
    exact ⟨L, _, x, by omega, fun z hz => by have := h2 z hz; omega, hx, rfl, h4, h5⟩
def at6 : List Int := [0, 1, 2, 4, 8, -1, 9223372036854775807]
theorem at6_in : ∀ z ∈ at6, LO ≤ z ∧ z ≤ HI := by decide
/-- Words and a number. -/
def WordsInt (w : World) (e : Ending) (w' : World) : Prop :=
  ∃ (L : List ByteArray) (v : Value) (t : Int), L.length ≤ 35 ∧ (∀ z ∈ L, z.size ≤ 10) ∧ LO ≤ t ∧ t ≤ HI ∧ e = .returned (.tuple #[v, .int .i64 t]) ∧ ReadsS w'.heap.size w' v L ∧ Below w.heap.size w w'
set_option maxHeartbeats 1600000 in
theorem dla_any (n cap : Nat) (a0 : Option Addr) (w : World) (hc : Code w.heap.size w a0 n) (hn : n ≤ 1048576) :
    Calls Tryd.prog 17 #[.slice a0 n cap] w (WordsInt w) := by
  go_enter Tryd.func17, Tryd.ntmps17
  go_wp2_with (first | (go_at_call 35; refine (new_any n cap a0 _ hc hn).mono ?_; rintro e w1 ⟨c, rfl, hk, hb⟩) | (go_at_call 42; refine (some5_any _ _ c n cap a0 hk).mono ?_; rintro e w5 ⟨L, v, hL5, hLz, rfl, ho, hk5, hg5⟩; have HLZ := Lib.hid hLz; clear hLz) | (go_at_call 48; refine (int_any LO HI w5.heap.size 7 (by decide) (by decide) _ _ c n cap a0 (hk5.alloc _) hk5.ne (fun j hj => row_ints w5 at6 3 LO HI at6_in j hj)).mono ?_; rintro e w6 ⟨u, ⟨t, ht0, ht1, rfl⟩, rfl, hk6, hg6⟩))
  have hcw : c < w1.heap.size := hk.lt
  have h6 := gtrans (World.grownBy_alloc w5 (.cells #[.int .i64 0, .int .i64 1, .int .i64 2, .int .i64 4, .int .i64 8, .int .i64 (-1), .int .i64 9223372036854775807] 3) (some c)) hg6
  have ho6 := ho.kept h6 (own_not ho hcw)
  have h1 := hb.trans (below_grown2 (gtrans hg5 h6) hk6.1 hb.size)
  go_ret2
  exact ⟨L, v, t, by omega, HLZ.out, ht0, ht1, rfl, readsS_own ho6 rfl (by omega), h1⟩
end Go.Proofs.YthgnhcjbjdhjfaaDoor
