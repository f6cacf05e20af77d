/-
  Contracts of the drawing cursor's functions (spec.l1New, l1Byte, l1Below, l1Once, l1Int, l1Odd, l1Raw, l1Num, l1One): what they return stays within its bounds, and only the cursor's own block is written.
-/
import Derived.Test.YtbickkphiofmlaaProg
import Derived.WalkKit
import Derived.WalkLawsBesides
import Derived.WalkSpells
import Derived.WalkSmall
import Derived.Outline
import Derived.Lib.Hide
import Derived.Lib.SmallJoins
import Derived.Laws.AppendOwn
import Derived.RegionTactic
import Derived.ChangeAlike
import Derived.Deep.QuietTactic
import Derived.BigQuiet
namespace Go.Proofs.Ytbickkphiofmlaa
open Go.RowKit

theorem i64_and255 (n : Int) : bits .and .i64 n 255 = n % 256 := by
  have h127 : (BitVec.ofInt 64 255).toNat = 2 ^ 8 - 1 := by decide
  have key : (BitVec.ofInt 64 n &&& BitVec.ofInt 64 255).toNat = (n % ((2 ^ 64 : Nat) : Int)).toNat % 2 ^ 8 := by
    rw [BitVec.toNat_and, BitVec.toNat_ofInt, h127, Nat.and_two_pow_sub_one_eq_mod]
  show IntKind.i64.wrap ((BitVec.ofInt 64 n &&& BitVec.ofInt 64 255).toNat : Nat) = n % 256
  rw [key, IntKind.wrap_i64]
  omega

theorem grown_setCell (w : World) (a : Addr) (u : Value) : w.grownBy (w.setCell a u) (some a.block) :=
  ⟨rfl, rfl, rfl, by simp [World.setCell], fun k _ hk => Below.heap_setCell w a u k (fun e => hk (by rw [e]))⟩
theorem grown_drew {a w : World} {r : Option Nat} (h : a.grownBy w r) : a.grownBy w.drew r := ⟨h.os, h.tape, h.output, h.size, h.block⟩
theorem grown_set {a w : World} {c : Nat} (h : a.grownBy w (some c)) (o : Nat) (u : Value) : a.grownBy (w.setCell ⟨c, o, none⟩ u) (some c) :=
  ⟨h.os, h.tape, h.output, by have := h.size; simpa [World.setCell] using this, fun k hk hn => (Below.heap_setCell w ⟨c, o, none⟩ u k (fun e => hn (by rw [e]))).trans (h.block k hk hn)⟩

/-- The cursor's block. -/
def CurAt (W : World) (c n cap : Nat) (a0 : Option Addr) (i : Nat) (h : Int) : Prop := W.heap[c]? = some (.cells #[.slice a0 n cap, .int .i64 i, .int .i64 h] 76 (0, 0))
theorem CurAt.set1 {W : World} {c n cap : Nat} {a0 : Option Addr} {i : Nat} {h : Int} (hk : CurAt W c n cap a0 i h) (j : Nat) : CurAt (W.setCell ⟨c, 1, none⟩ (.int .i64 j)) c n cap a0 j h := by
  have := Joins.block_setCell (i := 1) hk (.int .i64 j)
  exact this
theorem CurAt.set2 {W : World} {c n cap : Nat} {a0 : Option Addr} {i : Nat} {h : Int} (hk : CurAt W c n cap a0 i h) (j : Int) : CurAt (W.setCell ⟨c, 2, none⟩ (.int .i64 j)) c n cap a0 i j := by
  have := Joins.block_setCell (i := 2) hk (.int .i64 j)
  exact this
theorem CurAt.drew {W : World} {c n cap : Nat} {a0 : Option Addr} {i : Nat} {h : Int} (hk : CurAt W c n cap a0 i h) : CurAt W.drew c n cap a0 i h := hk

/-- What l1Byte leaves. -/
def ByteGives (c n cap : Nat) (a0 : Option Addr) (w : World) (i : Nat) (e : Ending) (w' : World) : Prop :=
  ∃ x h' : Int, 0 ≤ x ∧ x ≤ 255 ∧ e = .returned (.int .i64 x) ∧ CurAt w' c n cap a0 i h' ∧ w.grownBy w' (some c)
theorem byte_gives {c n cap : Nat} {a0 : Option Addr} {w w' : World} {i : Nat} {y : Int} {e : Ending} (he : e = .returned (.int .i64 (bits .and .i64 y 255))) {h' : Int} (h1 : CurAt w' c n cap a0 i h') (h2 : w.grownBy w' (some c)) : ByteGives c n cap a0 w i e w' :=
  ⟨_, h', by rw [i64_and255]; omega, by rw [i64_and255]; omega, he, h1, h2⟩

theorem byte_end (c n cap : Nat) (a0 : Option Addr) (i : Nat) (h : Int) (w : World) (hk : CurAt w c n cap a0 i h) (hi : ¬ (i : Int) < n) :
    Calls Try.prog 58 #[.pointer (some ⟨c, 0, none⟩)] w (ByteGives c n cap a0 w i) := by
  have c0 : w.cell? ⟨c, 0, none⟩ = some (.slice a0 n cap) := Joins.cell_of_block hk 0
  have c1 : w.cell? ⟨c, 1, none⟩ = some (.int .i64 i) := Joins.cell_of_block hk 1
  have c2 : w.cell? ⟨c, 2, none⟩ = some (.int .i64 h) := Joins.cell_of_block hk 2
  have f2 : w.frozen? ⟨c, 2, none⟩ = false := Joins.unfrozen_of_block hk 2
  have HK := Lib.hid hk
  clear hk
  go_enter Try.func58, Try.ntmps58
  go_wp2
  go_region
  all_goals go_wp2
  go_region
  all_goals go_wp2
  go_ret
  exact byte_gives rfl (HK.out.set2 _) (grown_drew (grown_drew (grown_setCell _ _ _)))

theorem byte_mid (c n cap b off : Nat) (i : Nat) (h x : Int) (w : World) (hk : CurAt w c n cap (some ⟨b, off, none⟩) i h) (hi : i < n) (hn : (n : Int) ≤ 9223372036854775807) (hne : b ≠ c)
    (hx : w.cell? ⟨b, off + i, none⟩ = some (.int .u8 x)) (h0 : 0 ≤ x) (h1 : x ≤ 255) :
    Calls Try.prog 58 #[.pointer (some ⟨c, 0, none⟩)] w (ByteGives c n cap (some ⟨b, off, none⟩) w (i + 1)) := by
  have c0 : w.cell? ⟨c, 0, none⟩ = some (.slice (some ⟨b, off, none⟩) n cap) := Joins.cell_of_block hk 0
  have c1 : w.cell? ⟨c, 1, none⟩ = some (.int .i64 i) := Joins.cell_of_block hk 1
  have c2 : w.cell? ⟨c, 2, none⟩ = some (.int .i64 h) := Joins.cell_of_block hk 2
  have f2 : w.frozen? ⟨c, 2, none⟩ = false := Joins.unfrozen_of_block hk 2
  have f1 : w.frozen? ⟨c, 1, none⟩ = false := Joins.unfrozen_of_block hk 1
  have hne' : c ≠ b := fun e => hne e.symm
  have HK := Lib.hid hk
  clear hk
  go_enter Try.func58, Try.ntmps58
  go_wp2
  go_region
  all_goals go_wp2
  go_region
  all_goals go_wp2
  go_region
  all_goals go_wp2
  go_ret
  exact byte_gives rfl ((HK.out.set2 _).set1 (i + 1)) (grown_drew (grown_drew (grown_drew (grown_set (grown_setCell w ⟨c, 2, none⟩ _) 1 _))))

/-- The bytes of the code, in blocks below B. -/
def Code (B : Nat) (W : World) (a0 : Option Addr) (n : Nat) : Prop :=
  (n : Int) ≤ 9223372036854775807 ∧ ∀ j, j < n → ∃ (b off : Nat) (x : Int), a0 = some ⟨b, off, none⟩ ∧ b < B ∧ W.cell? ⟨b, off + j, none⟩ = some (.int .u8 x) ∧ 0 ≤ x ∧ x ≤ 255
theorem Code.kept {B c n : Nat} {W W' : World} {a0 : Option Addr} (h : Code B W a0 n) (hg : W.grownBy W' (some c)) (hB : B ≤ c) : Code B W' a0 n :=
  ⟨h.1, fun j hj => by
    obtain ⟨b, off, x, e1, e2, e3, e4⟩ := h.2 j hj
    exact ⟨b, off, x, e1, e2, hg.cell e3 (fun e => by simp at e; omega), e4⟩⟩
/-- The cursor at block c over the code. -/
def Cur (B : Nat) (W : World) (c n cap : Nat) (a0 : Option Addr) : Prop := B ≤ c ∧ Code B W a0 n ∧ ∃ i h, CurAt W c n cap a0 i h

/-- A number of the cursor's: within lo .. hi; the cursor is kept, and nothing else is written. -/
def Gives (P : Value → Prop) (B : Nat) (w : World) (c n cap : Nat) (a0 : Option Addr) (e : Ending) (w' : World) : Prop :=
  ∃ v, P v ∧ e = .returned v ∧ Cur B w' c n cap a0 ∧ w.grownBy w' (some c)
def IntIn (lo hi : Int) (v : Value) : Prop := ∃ x : Int, lo ≤ x ∧ x ≤ hi ∧ v = .int .i64 x

theorem byte_any (B : Nat) (w : World) (c n cap : Nat) (a0 : Option Addr) (hk : Cur B w c n cap a0) :
    Calls Try.prog 58 #[.pointer (some ⟨c, 0, none⟩)] w (Gives (IntIn 0 255) B w c n cap a0) := by
  obtain ⟨hB, hc, i, h, hk⟩ := hk
  have fin : ∀ i' e w', ByteGives c n cap a0 w i' e w' → Gives (IntIn 0 255) B w c n cap a0 e w' := fun i' e w' ⟨x, h', h0, h1, he, hk', hg⟩ =>
    ⟨_, ⟨x, h0, h1, rfl⟩, he, ⟨hB, hc.kept hg hB, i', h', hk'⟩, hg⟩
  by_cases hi : i < n
  · obtain ⟨b, off, x, rfl, hb, hx, h0, h1⟩ := hc.2 i hi
    exact (byte_mid c n cap b off i h x w hk hi hc.1 (by omega) hx h0 h1).mono (fin _)
  · exact (byte_end c n cap a0 i h w hk (by omega)).mono (fin _)

theorem below_small (m : Int) (h1 : 1 ≤ m) (h2 : m ≤ 256) (B : Nat) (w : World) (c n cap : Nat) (a0 : Option Addr) (hk : Cur B w c n cap a0) :
    Calls Try.prog 45 #[.pointer (some ⟨c, 0, none⟩), .int .i64 m] w (Gives (IntIn 0 (m - 1)) B w c n cap a0) := by
  go_enter Try.func45, Try.ntmps45
  go_wp2_with (go_at_call 58; refine (byte_any B _ c n cap a0 hk).mono ?_; rintro e w1 ⟨v, ⟨x, hx0, hx1, rfl⟩, rfl, hk1, hg1⟩)
  go_ret
  exact ⟨_, ⟨_, Int.emod_nonneg _ (by omega), by have := Int.emod_lt_of_pos x (show 0 < m by omega); omega, rfl⟩, rfl, hk1, hg1⟩
theorem gtrans {a b d : World} {c : Nat} (h : a.grownBy b (some c)) (k : b.grownBy d (some c)) : a.grownBy d (some c) :=
  ⟨k.os.trans h.os, k.tape.trans h.tape, k.output.trans h.output, Nat.le_trans h.size k.size, fun j hj hn => (k.block j (Nat.lt_of_lt_of_le hj h.size) hn).trans (h.block j hj hn)⟩
theorem below_large (m : Int) (h1 : 256 < m) (h2 : m ≤ 4294967296) (B : Nat) (w : World) (c n cap : Nat) (a0 : Option Addr) (hk : Cur B w c n cap a0) :
    Calls Try.prog 45 #[.pointer (some ⟨c, 0, none⟩), .int .i64 m] w (Gives (IntIn 0 (m - 1)) B w c n cap a0) := by
  go_enter Try.func45, Try.ntmps45
  go_wp2_with (go_at_call 58; refine (byte_any B _ c n cap a0 hk).mono ?_; rintro e w1 ⟨v, ⟨x, hx0, hx1, rfl⟩, rfl, hk1, hg1⟩; clear hk)
  go_wp2_with (go_at_call 58; refine (byte_any B _ c n cap a0 hk1).mono ?_; rintro e w2 ⟨v, ⟨y, hy0, hy1, rfl⟩, rfl, hk2, hg2⟩; clear hk1)
  go_wp2_with (go_at_call 58; refine (byte_any B _ c n cap a0 hk2).mono ?_; rintro e w3 ⟨v, ⟨z, hz0, hz1, rfl⟩, rfl, hk3, hg3⟩; clear hk2)
  go_ret
  exact ⟨_, ⟨_, Int.emod_nonneg _ (by omega), by have := Int.emod_lt_of_pos (x * 65536 + y * 256 + z) (show 0 < m by omega); omega, rfl⟩, rfl, hk3, gtrans (gtrans hg1 hg2) hg3⟩
theorem below_any (m : Int) (h1 : 1 ≤ m) (h2 : m ≤ 4294967296) (B : Nat) (w : World) (c n cap : Nat) (a0 : Option Addr) (hk : Cur B w c n cap a0) :
    Calls Try.prog 45 #[.pointer (some ⟨c, 0, none⟩), .int .i64 m] w (Gives (IntIn 0 (m - 1)) B w c n cap a0) := by
  by_cases h : m ≤ 256
  · exact below_small m h1 h B w c n cap a0 hk
  · exact below_large m (by omega) h2 B w c n cap a0 hk

theorem once_any (m : Int) (h1 : 1 ≤ m) (h2 : m ≤ 4294967296) (B : Nat) (w : World) (c n cap : Nat) (a0 : Option Addr) (hk : Cur B w c n cap a0) :
    Calls Try.prog 56 #[.pointer (some ⟨c, 0, none⟩), .int .i64 m] w (Gives (fun v => ∃ b, v = .bool b) B w c n cap a0) := by
  go_enter Try.func56, Try.ntmps56
  go_wp2_with (go_at_call 45; refine (below_any m h1 h2 B _ c n cap a0 hk).mono ?_; rintro e w1 ⟨v, ⟨x, hx0, hx1, rfl⟩, rfl, hk1, hg1⟩; clear hk)
  go_ret
  exact ⟨_, ⟨_, rfl⟩, rfl, hk1, hg1⟩

theorem int_any (lo hi : Int) (g m : Nat) (h1 : 1 ≤ m) (h2 : m ≤ 65536) (B : Nat) (w : World) (c n cap : Nat) (a0 : Option Addr) (hk : Cur B w c n cap a0) (hgc : g ≠ c)
    (hl : ∀ j, j < m → ∃ z : Int, lo ≤ z ∧ z ≤ hi ∧ w.cell? ⟨g, j, none⟩ = some (.int .i64 z)) :
    Calls Try.prog 42 #[.pointer (some ⟨c, 0, none⟩), .slice (some ⟨g, 0, none⟩) m m] w (Gives (IntIn lo hi) B w c n cap a0) := by
  have HL := Lib.hid hl
  clear hl
  go_enter Try.func42, Try.ntmps42
  go_wp2_with (go_at_call 45; refine (below_any _ (by omega) (by omega) B _ c n cap a0 hk).mono ?_; rintro e w1 ⟨v, ⟨x, hx0, hx1, rfl⟩, rfl, hk1, hg1⟩; clear hk; obtain ⟨r, rfl⟩ : ∃ r : Nat, x = (r : Int) := ⟨x.toNat, by omega⟩; obtain ⟨z, hz0, hz1, hz⟩ := HL.out r (by omega); have hz2 := hg1.cell hz (by simpa using hgc))
  go_ret
  exact ⟨_, ⟨z, hz0, hz1, rfl⟩, rfl, hk1, hg1⟩
end Go.Proofs.Ytbickkphiofmlaa
