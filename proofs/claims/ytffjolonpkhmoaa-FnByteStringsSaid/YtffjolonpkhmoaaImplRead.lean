/-
  Contracts of impl.ReadUvarint, impl.ReadBytes and impl.DecodeInts as the program writes them: a cursor behind a pointer, which other readers embed.
-/
import Derived.Test.YtffjolonpkhmoaaImplApp
import Derived.Laws.BitsLemmas
import Derived.Laws.BitsAllLaws
import Derived.Deep.QuietTactic
namespace Go.Proofs.Ytffjolonpkhmoaa
open Go.RowKit

/-- The block of a reader: its input, its offset, what else it has. -/
def RAt (W : World) (g : Nat) (v : Value) (a : Int) (rest : List Value) (T : TypeId) : Prop := W.heap[g]? = some (.cells ⟨v :: .int .i64 a :: rest⟩ T (0, 0))
theorem RAt.set {W : World} {g : Nat} {v : Value} {a : Int} {rest : List Value} {T : TypeId} (h : RAt W g v a rest T) (a' : Int) : RAt (W.setCell ⟨g, 1, none⟩ (.int .i64 a')) g v a' rest T := by
  have := Joins.block_setCell (i := 1) h (.int .i64 a')
  exact this
theorem RAt.cell0 {W : World} {g : Nat} {v : Value} {a : Int} {rest : List Value} {T : TypeId} (h : RAt W g v a rest T) : W.cell? ⟨g, 0, none⟩ = some v := Joins.cell_of_block h 0
theorem RAt.cell1 {W : World} {g : Nat} {v : Value} {a : Int} {rest : List Value} {T : TypeId} (h : RAt W g v a rest T) : W.cell? ⟨g, 1, none⟩ = some (.int .i64 a) := Joins.cell_of_block h 1
theorem RAt.free {W : World} {g : Nat} {v : Value} {a : Int} {rest : List Value} {T : TypeId} (h : RAt W g v a rest T) (i : Nat) : W.frozen? ⟨g, i, none⟩ = false := Joins.unfrozen_of_block h i

/-- What readByte leaves where a byte stands. -/
def BGives (g : Nat) (v : Value) (a : Int) (rest : List Value) (T : TypeId) (z : Int) (w : World) (e : Ending) (w' : World) : Prop :=
  e = .returned (.tuple #[.int .u8 z, .bool true]) ∧ RAt w' g v (a + 1) rest T ∧ w.grownBy w' (some g)
theorem RAt.drewN {W : World} {g : Nat} {v : Value} {a : Int} {rest : List Value} {T : TypeId} (h : RAt W g v a rest T) {n : Nat} : RAt (W.drewN n) g v a rest T := h
theorem grown_drewN (w : World) (n : Nat) (r : Option Nat) : w.grownBy (w.drewN n) r := ⟨rfl, rfl, rfl, Nat.le_refl _, fun _ _ _ => rfl⟩
theorem grown_set {a w : World} {c : Nat} (h : a.grownBy w (some c)) (o : Nat) (u : Value) : a.grownBy (w.setCell ⟨c, o, none⟩ u) (some c) :=
  ⟨h.os, h.tape, h.output, by have := h.size; simpa [World.setCell] using this, fun k hk hn => (Below.heap_setCell w ⟨c, o, none⟩ u k (fun e => hn (by rw [e]))).trans (h.block k hk hn)⟩

set_option maxHeartbeats 800000 in
theorem rbyte_yes (g : Nat) (l : List Int) (hl : l.length ≤ 9223372036854775806) (b off cap : Nat) (q : Nat) (hq : q < l.length) (rest : List Value) (T : TypeId) (z : Int) (w : World) (hne : b ≠ g)
    (hk : RAt w g (.slice (some ⟨b, off, none⟩) l.length cap) q rest T) (hx : w.cell? ⟨b, off + q, none⟩ = some (.int .u8 z)) :
    Calls Try.prog 58 #[.pointer (some ⟨g, 0, none⟩)] w (BGives g (.slice (some ⟨b, off, none⟩) l.length cap) q rest T z w) := by
  have c0 := hk.cell0
  have c1 := hk.cell1
  have f1 := hk.free 1
  have hne' : g ≠ b := fun e => hne e.symm
  have hw : IntKind.i64.wrap ((l.length : Int) - 1) = l.length - 1 := by rw [IntKind.wrap_i64]; omega
  have HK := Lib.hid hk
  clear hk
  go_enter Try.func58, Try.ntmps58
  go_wp2
  go_quiet (first | (go_at_call 52; refine Calls.quiet_of_same ((inr_yes _ _ _ ?_ ?_ _).mono fun _ _ h => ⟨h.1, h.2.symm⟩) <;> omega))
  all_goals go_wp2
  go_region
  all_goals go_wp2
  exact bodyPost_ret (v := .tuple #[.int .u8 z, .bool true]) (by simp [results, Try.results58, go_sem]) rfl ⟨rfl, HK.out.drewN.set _, grown_set (grown_drewN _ _ _) 1 _⟩

set_option maxHeartbeats 800000 in
theorem rbyte_no (g : Nat) (l : List Int) (hl : l.length ≤ 9223372036854775806) (a0 : Option Addr) (cap : Nat) (a : Int) (ha : ¬ (0 ≤ a ∧ a < l.length)) (rest : List Value) (T : TypeId) (w : World)
    (hk : RAt w g (.slice a0 l.length cap) a rest T) :
    Calls Try.prog 58 #[.pointer (some ⟨g, 0, none⟩)] w fun e w' => e = .returned (.tuple #[.int .u8 0, .bool false]) ∧ RAt w' g (.slice a0 l.length cap) a rest T ∧ w.grownBy w' (some g) := by
  have c0 := hk.cell0
  have c1 := hk.cell1
  have hw : IntKind.i64.wrap ((l.length : Int) - 1) = l.length - 1 := by rw [IntKind.wrap_i64]; omega
  have HA : Hid (¬ (0 ≤ a ∧ a ≤ (l.length : Int) - 1)) := Lib.hid (by omega)
  have HK := Lib.hid hk
  clear hk ha
  go_enter Try.func58, Try.ntmps58
  go_wp2
  go_quiet (first | (go_at_call 52; exact Calls.quiet_of_same ((inr_no _ _ _ HA.out _).mono fun _ _ h => ⟨h.1, h.2.symm⟩)))
  all_goals go_wp2
  exact bodyPost_ret (v := .tuple #[.int .u8 0, .bool false]) (by simp [results, Try.results58, go_sem]) rfl ⟨rfl, HK.out.drewN, grown_drewN _ _ _⟩

theorem u8_flag0 {z : Int} (h0 : 0 ≤ z) (h1 : z ≤ 127) : bits .and .u8 z 128 = 0 := by
  rw [u8_and z 128 h0 (by omega) (by decide) (by decide)]
  have : ∀ n, n < 128 → n &&& 128 = 0 := by decide
  exact congrArg _ (this z.toNat (by omega))
theorem u8_flag1 {z : Int} (h0 : 128 ≤ z) (h1 : z ≤ 255) : bits .and .u8 z 128 = 128 := by
  rw [u8_and z 128 (by omega) (by omega) (by decide) (by decide)]
  have : ∀ n, n < 128 → (n + 128) &&& 128 = 128 := by decide
  have h := this (z.toNat - 128) (by omega)
  rw [show z.toNat - 128 + 128 = z.toNat by omega] at h
  exact congrArg _ h
theorem u8_group {z : Int} (h0 : 0 ≤ z) (h1 : z ≤ 255) : bits .and .u8 z 127 = z % 128 := bits_mask .u8 8 (by decide) wraps_u8 7 (by decide) z h0 (by omega)

/-- What readInteger leaves. -/
def RI (l : List Int) (a : Int) (g : Nat) (v : Value) (rest : List Value) (T : TypeId) (w : World) (e : Ending) (w' : World) : Prop :=
  ∃ (x : Int) (ok : Bool) (a' : Int), ((ok = true ∧ RD l a x a') ∨ (ok = false ∧ ∀ n nx, ¬ RD l a n nx)) ∧ e = .returned (.tuple #[.int .i64 x, .bool ok]) ∧ RAt w' g v a' rest T ∧ w.grownBy w' (some g)

set_option maxHeartbeats 1600000 in
theorem rint_any (g B : Nat) (hBg : B ≤ g) (l : List Int) (hl : l.length ≤ 8388608) (hb : ∀ z ∈ l, 0 ≤ z ∧ z ≤ 255) (a : Int) (v : Value) (rest : List Value) (T : TypeId) (w : World) (hv : Reads B w v .u8 l) (hk : RAt w g v a rest T) :
    Calls Try.prog 47 #[.pointer (some ⟨g, 0, none⟩)] w (RI l a g v rest T w) := by
  obtain ⟨-, a0, cap, rfl, -, hc⟩ := hv
  have HC := Lib.hid hc
  have HB := Lib.hid hb
  have HK := Lib.hid hk
  clear hc hb hk
  go_enter Try.func47, Try.ntmps47
  go_wp2
  go_loopw [4, 9] (fun nv kv wr => ∃ (k : Nat) (p : List Int) (G : Int), k ≤ 6 ∧ kv = .int .i64 k ∧ nv = .int .i64 G ∧ Hid (p.length = k ∧ G = gval p ∧ (k = 0 ∨ 0 ≤ a) ∧ l.drop a.toNat = p ++ l.drop (a.toNat + k) ∧ ∀ y ∈ p, isCont y) ∧ Hid (RAt wr g (.slice a0 l.length cap) (a + k) rest T) ∧ w.grownBy wr (some g)) (fun _ kv _ => 6 - (intOf kv).toNat)
  case atStart => exact ⟨0, [], 0, by decide, rfl, rfl, Lib.hid ⟨rfl, rfl, Or.inl rfl, by simp, by simp⟩, Lib.hid (by simpa using HK.out), grown_refl _ _⟩
  case round =>
    obtain ⟨k, p, G, hk6, rfl, rfl, HP, HR, hg⟩ := hrel
    by_cases hk : 6 ≤ k
    · have HN : Hid (∀ n next, ¬ RD l a n next) := Lib.hid (by
        obtain ⟨h1, h2, h3, h4, h5⟩ := HP.out
        have h6 : 0 ≤ a := by omega
        obtain ⟨q, rfl⟩ : ∃ q : Nat, a = (q : Int) := ⟨a.toNat, by omega⟩
        rw [Int.toNat_natCast] at h4
        exact rd_none h4 h5 (Or.inr (by omega)))
      go_wp2
      exact bodyPost_ret (v := .tuple #[.int .i64 0, .bool false]) (by simp [results, Try.results47, go_sem]) rfl ⟨0, false, _, Or.inr ⟨rfl, HN.out⟩, rfl, HR.out, hg⟩
    · by_cases hr : 0 ≤ a ∧ a + k < l.length
      · obtain ⟨ha0, ha1⟩ := hr
        obtain ⟨q, rfl⟩ : ∃ q : Nat, a = (q : Int) := ⟨a.toNat, by omega⟩
        obtain ⟨b, off, rfl, hbB, hcell⟩ := HC.out (q + k) (by omega)
        obtain ⟨z, hz⟩ : ∃ z, z = l.getD (q + k) 0 := ⟨_, rfl⟩
        rw [← hz] at hcell
        have HCELL : Hid (wr.cell? ⟨b, off + (q + k), none⟩ = some (.int .u8 z)) := Lib.hid (hg.cell hcell (fun e => by simp at e; omega))
        have hzl : l.drop (q + k) = z :: l.drop (q + k + 1) := by
          rw [List.drop_eq_getElem_cons (show q + k < l.length by omega), hz]
          simp [List.getD, show q + k < l.length by omega]
        have hz0 := HB.out z (by have := List.mem_of_mem_drop (show z ∈ l.drop (q + k) by rw [hzl]; exact List.mem_cons_self ..); exact this)
        obtain ⟨hz1, hz2⟩ := hz0
        obtain ⟨p1, p2, p3, p4, p5⟩ := HP.out
        rw [Int.toNat_natCast, hzl] at p4
        have hG0 : 0 ≤ G := by rw [p2]; exact gval_nonneg p
        have hG1 : G < 128 ^ k := by rw [p2, ← p1]; exact gval_lt p
        obtain ⟨G', hG'⟩ : ∃ G', G' = gval (p ++ [z]) := ⟨_, rfl⟩
        have hgroup := u8_group hz1 hz2
        have hstep : bits .or .i64 G (RowKit.wrap64 (z % 128 * 2 ^ (k * 7))) = G' := by
          have h9 := read_step z G k (by omega) hG0 hG1
          rw [i64_and127, Nat.mul_comm 7 k] at h9
          rw [h9, hG', gval_snoc, p1, p2]
        have HQ : Hid (p.length = k ∧ l.drop q = p ++ z :: l.drop (q + k + 1) ∧ (∀ y ∈ p, isCont y) ∧ G' = gval (p ++ [z])) := Lib.hid ⟨p1, p4, p5, hG'⟩
        have HR1 : Hid (RAt wr g (.slice (some ⟨b, off, none⟩) l.length cap) ((q + k : Nat) : Int) rest T) := HR
        clear p1 p2 p3 p4 p5 hz hzl hG0 hG1 hG' hcell
        by_cases hzc : 128 ≤ z
        · have hflag := u8_flag1 hzc hz2
          go_wp2_with (go_at_call 58; refine (rbyte_yes g l (by omega) b off cap (q + k) (by omega) rest T z wr (by omega) HR1.out HCELL.out).mono ?_; rintro e w1 ⟨rfl, hk1, hg1⟩)
          go_roundw
          case rel => exact ⟨k + 1, p ++ [z], G', by omega, by go_num, rfl, Lib.hid (by
            obtain ⟨a1, a2, a3, a4⟩ := HQ.out
            refine ⟨by simp; omega, a4, Or.inr (by omega), by rw [Int.toNat_natCast, a2]; simp [Nat.add_assoc], fun y hy => ?_⟩
            rcases List.mem_append.1 hy with h | h
            · exact a3 y h
            · simp only [List.mem_singleton] at h; subst h; exact ⟨hzc, hz2⟩), Lib.hid (by have h9 := hk1; rwa [show ((q + k : Nat) : Int) + 1 = (q : Int) + ((k + 1 : Nat) : Int) by omega] at h9), grown_trans hg hg1⟩
          case measure => simp [intOf]; omega
        · have hzn : z ≤ 127 := by omega
          have hflag := u8_flag0 hz1 hzn
          clear hzc
          obtain ⟨okb, hokb⟩ : ∃ okb, okb = (((k : Int) == 0 || z != 0) && decide (G' ≤ 1000000000000)) := ⟨_, rfl⟩
          have HFIN : Hid ((okb = true ∧ RD l q G' (((q + k : Nat) : Int) + 1)) ∨ (okb = false ∧ ∀ n nx, ¬ RD l q n nx)) := Lib.hid (by
            rw [hokb]
            obtain ⟨a1, a2, a3, a4⟩ := HQ.out
            by_cases hzz : z = 0 ∧ 0 < k
            · refine Or.inr ⟨by simp; omega, fun n next h => ?_⟩
              rcases (rd_of a2 a3 hzn h).2.2 with h1 | h1
              · rw [h1] at a1; simp at a1; omega
              · exact h1 hzz.1
            · by_cases hM : 1000000000000 < G'
              · refine Or.inr ⟨by simp; omega, fun n next h => ?_⟩
                have h1 := (rd_of a2 a3 hzn h).1
                have h2 := h.2.2.1
                omega
              · refine Or.inl ⟨by simp; omega, ?_⟩
                have h9 := rd_yes a2 a3 hz1 hzn (by
                  by_cases h : z = 0
                  · left
                    exact List.length_eq_zero_iff.1 (by omega)
                  · exact Or.inr h) (by omega)
                rw [← a4, a1] at h9
                rwa [show ((q + k : Nat) : Int) + 1 = (q : Int) + k + 1 by omega])
          have HOK := Lib.hid hokb
          clear hokb
          go_wp2_with (go_at_call 58; refine (rbyte_yes g l (by omega) b off cap (q + k) (by omega) rest T z wr (by omega) HR1.out HCELL.out).mono ?_; rintro e w1 ⟨rfl, hk1, hg1⟩)
          all_goals exact bodyPost_ret (v := .tuple #[.int .i64 G', .bool okb]) (by rw [HOK.out]; simp [results, Try.results47, go_sem] <;> omega) rfl ⟨G', _, _, HFIN.out, rfl, hk1, grown_trans hg hg1⟩
      · have HN : Hid (∀ n next, ¬ RD l a n next) := Lib.hid (by
          obtain ⟨h1, h2, h3, h4, h5⟩ := HP.out
          intro n next hrd
          have h6 : 0 ≤ a := hrd.1
          obtain ⟨q, rfl⟩ : ∃ q : Nat, a = (q : Int) := ⟨a.toNat, by omega⟩
          rw [Int.toNat_natCast] at h4
          exact rd_none h4 h5 (Or.inl (List.drop_eq_nil_of_le (by omega))) n next hrd)
        have HNR : Hid (¬ (0 ≤ a + k ∧ a + k < l.length)) := Lib.hid (by
          obtain ⟨h1, h2, h3, h4, h5⟩ := HP.out
          omega)
        clear hr
        go_wp2_with (go_at_call 58; refine (rbyte_no g l (by omega) a0 cap (a + k) HNR.out rest T wr HR.out).mono ?_; rintro e w1 ⟨rfl, hk1, hg1⟩)
        exact bodyPost_ret (v := .tuple #[.int .i64 0, .bool false]) (by simp [results, Try.results47, go_sem]) rfl ⟨0, false, _, Or.inr ⟨rfl, HN.out⟩, rfl, hk1, grown_trans hg hg1⟩

theorem RAt.new (w : World) (v : Value) (a : Int) (rest : List Value) (T : TypeId) : RAt (w.alloc (.cells ⟨v :: .int .i64 a :: rest⟩ T)) w.heap.size v a rest T := by
  show (w.heap.push _)[w.heap.size]? = _
  simp
theorem below_grown {B g : Nat} {a w w' : World} (h : Below B a w) (hg : w.grownBy w' (some g)) (hB : B ≤ w.heap.size) (hBg : B ≤ g) : Below B a w' :=
  h.grown hg hB (fun k hk => by cases hk; exact hBg)

set_option maxHeartbeats 800000 in
theorem i_ReadUvarint (v : Value) (l : List Int) (n : Int) (w : World) (hR : Reads w.heap.size w v .u8 l) (hB : ∀ z ∈ l, 0 ≤ z ∧ z ≤ 255) (hl : l.length ≤ 1048576) (_lo : -9223372036854775808 ≤ n) (_hi : n ≤ 9223372036854775807) :
    Calls Try.prog 15 #[v, .int .i64 n] w (IR l n w) := by
  have HV := Lib.hid hR
  have HB := Lib.hid hB
  obtain ⟨-, a0, cap, rfl, -, -⟩ := hR
  clear hB
  go_enter Try.func15, Try.ntmps15
  go_wp2_with (go_at_call 47; refine (rint_any w.heap.size w.heap.size (Nat.le_refl _) l (by omega) HB.out n _ [] _ _ (HV.out.later ((Below.refl _ _).alloc (Nat.le_refl _) _)) (RAt.new _ _ _ _ _)).mono ?_; rintro e w1 ⟨x, ok, a', HA, rfl, hk1, hg1⟩; have hb1 := below_grown ((Below.refl w.heap.size w).alloc (Nat.le_refl _) _) hg1 (by simp) (Nat.le_refl _); have HK1 := Lib.hid hk1; have c1 := hk1.cell1; clear hk1 hg1; rcases HA with ⟨rfl, hrd⟩ | ⟨rfl, hno⟩)
  · have HN := Lib.hid hrd
    clear hrd
    go_region
    all_goals go_wp2
    all_goals exact bodyPost_ret (v := .tuple #[.int .i64 x, .int .i64 a', .bool true]) (by simp [results, Try.results15, go_sem]) rfl ⟨x, a', true, Or.inl ⟨rfl, HN.out⟩, rfl, hb1.drew⟩
  · exact bodyPost_ret (v := .tuple #[.int .i64 0, .int .i64 0, .bool false]) (by simp [results, Try.results15, go_sem]) rfl ⟨0, 0, false, Or.inr ⟨rfl, rfl, rfl, hno⟩, rfl, hb1⟩
end Go.Proofs.Ytffjolonpkhmoaa
