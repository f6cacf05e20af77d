/-
  Contract of impl.DecodeInts, whose reader keeps the integers beside the cursor.
-/
import Derived.Test.YtffjolonpkhmoaaImplReadTwo
namespace Go.Proofs.Ytffjolonpkhmoaa
open Go.RowKit

theorem own_ne {W : World} {base n g : Nat} {e T : TypeId} {u v : Value} {xs rest : List Value} {a : Int} (h : W.ownsRow base e 1 u n xs) (hk : RAt W g v a rest T) (hT : T ≠ e) : u.ownBlock ≠ some g := by
  rcases h.2 with ⟨rfl, -⟩ | ⟨g', cap, cur, rfl, -, hg, -⟩
  · intro h; cases h
  · intro h
    have h' : g' = g := by simpa [Value.ownBlock] using h
    subst h'
    have h2 := hk
    unfold RAt at h2
    rw [h2] at hg
    injection hg with h3
    injection h3 with h4 h5
    exact hT h5
theorem RAt.set2 {W : World} {g : Nat} {v x : Value} {a : Int} {T : TypeId} (h : RAt W g v a [x] T) (u : Value) : RAt (W.setCell ⟨g, 2, none⟩ u) g v a [u] T := by
  have := Joins.block_setCell (i := 2) h u
  exact this
theorem RAt.grown {W W' : World} {g : Nat} {v : Value} {a : Int} {rest : List Value} {T : TypeId} {r : Option Nat} (h : RAt W g v a rest T) (hg : W.grownBy W' r) (hr : r ≠ some g) : RAt W' g v a rest T :=
  (hg.block g (lt_of_block h) (fun e => hr e.symm)).trans h

theorem own_form {w : World} {base n : Nat} {e : TypeId} {v : Value} {xs : List Value} (h : w.ownsRow base e 1 v n xs) : ∃ a cap, v = .slice a n cap := by
  rcases h.2 with ⟨rfl, rfl⟩ | ⟨g, cap, cur, rfl, _⟩
  · exact ⟨_, _, rfl⟩
  · exact ⟨_, _, rfl⟩
theorem RAt.alloc {W : World} {g : Nat} {v : Value} {a : Int} {rest : List Value} {T : TypeId} (h : RAt W g v a rest T) (o : Obj) : RAt (W.alloc o) g v a rest T :=
  (Below.heap_alloc W o g (lt_of_block h)).trans h

/-- What readIntegers leaves. -/
def RL (l : List Int) (a : Int) (N B g : Nat) (v : Value) (w : World) (e : Ending) (w' : World) : Prop :=
  ∃ (L : List Int) (ok : Bool) (a' : Int) (vd : Value), ((ok = true ∧ DD l N a L a') ∨ (ok = false ∧ ∀ L' nx, ¬ DD l N a L' nx)) ∧ L.length ≤ 100 ∧ e = .returned (.bool ok) ∧ RAt w' g v a' [vd] 64 ∧ w'.ownsRow B 3 1 vd L.length (L.map (Value.int .i64)) ∧ Below B w w'

set_option maxHeartbeats 1600000 in
theorem rlist_any (g B : Nat) (hBg : B ≤ g) (l : List Int) (hl : l.length ≤ 8388608) (hb : ∀ z ∈ l, 0 ≤ z ∧ z ≤ 255) (a : Int) (N : Nat) (hN : N ≤ 100) (v vd : Value) (w : World) (hv : Reads B w v .u8 l) (hk : RAt w g v a [vd] 64) (ho : w.ownsRow B 3 1 vd 0 []) :
    Calls Try.prog 53 #[.pointer (some ⟨g, 0, none⟩), .int .i64 N] w (RL l a N B g v w) := by
  obtain ⟨i0, hi, hz0, hz1, hz2⟩ := info_parts infoInt
  have HV := Lib.hid hv
  have HB := Lib.hid hb
  have HK := Lib.hid hk
  have HO := Lib.hid ho
  have hsz := rat_le hk hBg
  clear hb hk hv ho
  go_enter Try.func53, Try.ntmps53
  go_wp2
  go_loopw [8] (fun i wr => ∃ (k : Nat) (L : List Int) (a' : Int) (vk : Value), k ≤ N ∧ i = .int .i64 k ∧ Hid (DD l k a L a') ∧ Hid (RAt wr g v a' [vk] 64) ∧ Hid (wr.ownsRow B 3 1 vk L.length (L.map (Value.int .i64))) ∧ Below B w wr) (fun i _ => N - (intOf i).toNat)
  case atStart => exact ⟨0, [], a, vd, Nat.zero_le _, rfl, Lib.hid ⟨rfl, rfl⟩, HK, HO, Below.refl _ _⟩
  case round =>
    obtain ⟨k, L, a', vk, hk, rfl, HD, HR, HOW, hbl⟩ := hrel
    have hL := dd_length k HD.out
    subst hL
    by_cases hlt : L.length < N
    · go_wp2_with (first | (go_at_call 47; refine (rint_any g B hBg l (by omega) HB.out a' _ _ _ wr (HV.out.later hbl) HR.out).mono ?_; rintro e w1 ⟨x, ok, a1, HA, rfl, hk1, hg1⟩; have HK1 := Lib.hid hk1; have c2 : w1.cell? ⟨g, 2, none⟩ = some vk := Joins.cell_of_block hk1 2; have hb1 := below_grown hbl hg1 (Nat.le_trans hsz hbl.size) hBg; have HO1 : Hid (w1.ownsRow B 3 1 vk L.length (L.map (Value.int .i64))) := Lib.hid (HOW.out.kept hg1 (.inr (own_ne HOW.out HR.out (by decide)))); clear hk1) | (at_builtin; refine append_reads _ rfl _ _ 35 rfl B 3 i0 (.int .i64 0) 8 Try.underlying35 hi hz0 hz1 hz2 rfl _ _ _ rfl (HO1.out.alloc _) (some ⟨w1.heap.size, 0, none⟩) 1 1 .i64 [_] rfl rfl (fun e => by cases e) (one_src w1 _ .i64 _) (by omega) (by omega) (by have := hb1.size; simp; omega) ?_; intro v2 w2 hown2 hgrow2; obtain ⟨a2, q2, rfl⟩ := own_form hown2; have HK2 : Hid (RAt w2 g v a1 [vk] 64) := Lib.hid ((HK1.out.alloc _).grown hgrow2 (own_ne HO1.out HK1.out (by decide))); have d2 : w2.cell? ⟨g, 2, none⟩ = some vk := Joins.cell_of_block HK2.out 2; have f2 : w2.frozen? ⟨g, 2, none⟩ = false := HK2.out.free 2))
      · have HN : Hid ((∀ L' nx, ¬ DD l N a L' nx)) := Lib.hid (by
          rcases HA with ⟨rfl, _⟩ | ⟨rfl, hno⟩
          · exact absurd ‹(!true) = true› (by decide)
          · intro L' nx hd
            obtain ⟨L1, mid', x', nx2, h1, h2⟩ := dd_prefix N hd hlt
            obtain ⟨rfl, rfl⟩ := dd_unique _ HD.out h1
            exact hno _ _ h2)
        clear HA
        go_ret
        exact ⟨L, false, a1, vk, Or.inr ⟨rfl, HN.out⟩, by omega, rfl, HK1.out, HO1.out, hb1⟩
      · have HN : Hid (DD l (L.length + 1) a (L ++ [x]) a1) := Lib.hid (by
          rcases HA with ⟨rfl, hrd⟩ | ⟨rfl, _⟩
          · exact ⟨L, a', x, HD.out, hrd, rfl⟩
          · exact absurd ‹(!false) = false› (by decide))
        have HO2 : Hid (w2.ownsRow B 3 1 (.slice a2 (L.length + 1) q2) (L ++ [x]).length ((L ++ [x]).map (Value.int .i64))) := Lib.hid (by simpa using hown2)
        have HB2 := Lib.hid (below_own (hb1.alloc (Nat.le_trans hsz (Nat.le_trans hbl.size (by have := hg1.size; omega))) _) hgrow2 (HO1.out.alloc _) (Nat.le_refl _) (by have := hb1.size; simp; omega))
        clear hown2 hgrow2 HA
        go_roundw
        case rel => exact ⟨L.length + 1, L ++ [x], a1, _, by omega, by go_num, HN, Lib.hid (HK2.out.set2 _), Lib.hid (ownsRow_setCell_other HO2.out (own_ne (T := 64) HO2.out HK2.out (by decide)) _), HB2.out.setCell hBg _⟩
        case measure => simp [intOf]; omega
    · have hk' : L.length = N := by omega
      have HN : Hid (DD l N a L a') := Lib.hid (by rw [← hk']; exact HD.out)
      clear hk'
      go_wp2
      go_ret
      exact ⟨L, true, a', vk, Or.inl ⟨rfl, HN.out⟩, by omega, rfl, HR.out, HOW.out, hbl⟩

theorem rat_new1 (w : World) (v : Value) (a : Int) (rest : List Value) (T : TypeId) (o : Obj) : RAt ((w.alloc o).alloc (.cells ⟨v :: .int .i64 a :: rest⟩ T)) (w.heap.size + 1) v a rest T := by
  have h := RAt.new (w.alloc o) v a rest T
  rwa [show (w.alloc o).heap.size = w.heap.size + 1 by simp] at h

set_option maxHeartbeats 1600000 in
theorem di_in (v : Value) (l : List Int) (a : Int) (N : Nat) (hN : N ≤ 100) (ha0 : 0 ≤ a) (ha1 : a ≤ l.length) (w : World) (hR : Reads w.heap.size w v .u8 l) (hB : ∀ z ∈ l, 0 ≤ z ∧ z ≤ 255) (hl : l.length ≤ 1048576) :
    Calls Try.prog 24 #[v, .int .i64 a, .int .i64 N] w (DIOut l a N w) := by
  have HV := Lib.hid hR
  have HB := Lib.hid hB
  obtain ⟨-, a0, cap, rfl, -, -⟩ := hR
  clear hB
  go_enter Try.func24, Try.ntmps24
  go_wp2_with (first | (go_at_call 52; refine (inr_yes _ _ _ (by omega) (by omega) _).mono ?_; rintro e w2 ⟨rfl, rfl⟩) | (go_at_call 53; refine (rlist_any (w.heap.size + 1) w.heap.size (Nat.le_succ _) l (by omega) HB.out a N hN _ _ _ (HV.out.later (((Below.refl _ _).alloc (Nat.le_refl _) _).alloc (by simp) _)) (rat_new1 w _ a _ _ _) ((own_empty w _).alloc _)).mono ?_; rintro e w1 ⟨L, ok, a', vd, HA, hL, rfl, hk1, ho1, hb⟩; have hb1 := (((Below.refl w.heap.size w).alloc (Nat.le_refl _) (.cells #[] 3)).alloc (by simp) _).trans hb; have c1 := hk1.cell1; have c2 : w1.cell? ⟨w.heap.size + 1, 2, none⟩ = some vd := Joins.cell_of_block hk1 2; have HO1 := Lib.hid ho1; clear hk1 ho1 hb))
  · have HN : Hid (DIv l a N [] 0 false) := Lib.hid (by
      rcases HA with ⟨rfl, _⟩ | ⟨rfl, hno⟩
      · exact absurd ‹(!true) = true› (by decide)
      · exact Or.inr ⟨rfl, rfl, rfl, fun _ _ _ _ L' nx' hd => hno L' nx' (by rwa [Int.toNat_natCast] at hd)⟩)
    exact bodyPost_ret (v := .tuple #[.slice (some ⟨w1.heap.size, 0, none⟩) 0 0, .int .i64 0, .bool false]) (by simp [results, Try.results24, go_sem]) rfl (di_no HN.out rfl (own_wide (own_empty w1 _) hb1.size) (hb1.alloc hb1.size _))
  · have HN : Hid (DIv l a N L a' true) := Lib.hid (by
      rcases HA with ⟨rfl, hd⟩ | ⟨rfl, _⟩
      · exact Or.inl ⟨rfl, by omega, by omega, ha0, ha1, by rw [Int.toNat_natCast]; exact hd⟩
      · exact absurd ‹(!false) = false› (by decide))
    clear HA
    go_region
    all_goals go_wp2
    all_goals exact bodyPost_ret (v := .tuple #[vd, .int .i64 a', .bool true]) (by simp [results, Try.results24, go_sem]) rfl ⟨L, a', true, vd, HN.out, by omega, rfl, HO1.out, hb1.drew⟩

set_option maxHeartbeats 800000 in
theorem di_off (v : Value) (l : List Int) (a : Int) (n : Int) (hn0 : 0 ≤ n) (hn1 : n ≤ 100) (ha : ¬ (0 ≤ a ∧ a ≤ l.length)) (w : World) (hR : Reads w.heap.size w v .u8 l) :
    Calls Try.prog 24 #[v, .int .i64 a, .int .i64 n] w (DIOut l a n w) := by
  obtain ⟨-, a0, cap, rfl, -, -⟩ := hR
  have HA := Lib.hid ha
  have HN : Hid (DIv l a n [] 0 false) := Lib.hid (Or.inr ⟨rfl, rfl, rfl, fun _ _ h1 h2 => absurd ⟨h1, h2⟩ ha⟩)
  clear ha
  go_enter Try.func24, Try.ntmps24
  go_wp2_with (go_at_call 52; first | (refine (inr_yes _ _ _ (by omega) (by omega) _).mono ?_; rintro e w2 ⟨rfl, rfl⟩) | (refine (inr_no _ _ _ HA.out _).mono ?_; rintro e w2 ⟨rfl, rfl⟩))
  exact bodyPost_ret (v := .tuple #[.slice (some ⟨w.heap.size, 0, none⟩) 0 0, .int .i64 0, .bool false]) (by simp [results, Try.results24, go_sem]) rfl (di_no HN.out rfl (own_empty w _) ((Below.refl _ _).alloc (Nat.le_refl _) _))

set_option maxHeartbeats 800000 in
theorem di_count (v : Value) (l : List Int) (a : Int) (n : Int) (hn : ¬ (0 ≤ n ∧ n ≤ 100)) (w : World) (hR : Reads w.heap.size w v .u8 l) :
    Calls Try.prog 24 #[v, .int .i64 a, .int .i64 n] w (DIOut l a n w) := by
  obtain ⟨-, a0, cap, rfl, -, -⟩ := hR
  have HA := Lib.hid hn
  have HN : Hid (DIv l a n [] 0 false) := Lib.hid (Or.inr ⟨rfl, rfl, rfl, fun h1 h2 => absurd ⟨h1, h2⟩ hn⟩)
  clear hn
  go_enter Try.func24, Try.ntmps24
  go_wp2_with (go_at_call 52; refine (inr_no _ _ _ HA.out _).mono ?_; rintro e w2 ⟨rfl, rfl⟩)
  exact bodyPost_ret (v := .tuple #[.slice (some ⟨w.heap.size, 0, none⟩) 0 0, .int .i64 0, .bool false]) (by simp [results, Try.results24, go_sem]) rfl (di_no HN.out rfl (own_empty w _) ((Below.refl _ _).alloc (Nat.le_refl _) _))

theorem i_DecodeInts (v : Value) (l : List Int) (a n : Int) (w : World) (hR : Reads w.heap.size w v .u8 l) (hB : ∀ z ∈ l, 0 ≤ z ∧ z ≤ 255) (hl : l.length ≤ 1048576) (_lo : -9223372036854775808 ≤ a) (_hi : a ≤ 9223372036854775807) (_lo' : -9223372036854775808 ≤ n) (_hi' : n ≤ 9223372036854775807) :
    Calls Try.prog 24 #[v, .int .i64 a, .int .i64 n] w (DIOut l a n w) := by
  by_cases hn : 0 ≤ n ∧ n ≤ 100
  · by_cases ha : 0 ≤ a ∧ a ≤ l.length
    · obtain ⟨N, rfl⟩ : ∃ N : Nat, n = (N : Int) := ⟨n.toNat, by omega⟩
      exact di_in v l a N (by omega) ha.1 ha.2 w hR hB hl
    · exact di_off v l a n hn.1 hn.2 ha w hR
  · exact di_count v l a n hn w hR
end Go.Proofs.Ytffjolonpkhmoaa
