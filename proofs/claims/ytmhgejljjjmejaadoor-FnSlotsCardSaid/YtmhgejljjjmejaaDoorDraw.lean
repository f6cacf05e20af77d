/-
  Contracts of the drawing cursor's functions (spec.l1New, l1Byte, l1Below, l1Once, l1Int, l1Odd, l1Raw, l1Num, l1One): what they return stays within its bounds, and only the cursor's own block is written.
  Contract of spec.l1Str: one of the list's texts; only the cursor's own block is written.
  Contracts of the drawing functions over the cursor that build lists (spec.l1Odd, l1Raw, l1Num, l1One) and of spec.l1New.
  Contract of spec.l1Bytes: what is drawn is bytes, and only the cursor's own block and new memory are written.
-/
import Derived.Test.YtmhgejljjjmejaaDoorProg
import Derived.Test.YtmhgejljjjmejaaDoorKit
import Derived.WalkKit
import Derived.WalkLawsBesides
import Derived.WalkSpells
import Derived.WalkSmall
import Derived.Outline
import Derived.Lib.Hide
import Derived.Lib.SmallJoins
import Derived.Laws.AppendOwn
import Derived.RegionTactic
import Derived.ChangeAlike
import Derived.Deep.QuietTactic
import Derived.BigQuiet
namespace Go.Proofs.YtmhgejljjjmejaaDoor
open Go.RowKit

theorem i64_and255 (n : Int) : bits .and .i64 n 255 = n % 256 := by
  have h127 : (BitVec.ofInt 64 255).toNat = 2 ^ 8 - 1 := by decide
  have key : (BitVec.ofInt 64 n &&& BitVec.ofInt 64 255).toNat = (n % ((2 ^ 64 : Nat) : Int)).toNat % 2 ^ 8 := by
    rw [BitVec.toNat_and, BitVec.toNat_ofInt, h127, Nat.and_two_pow_sub_one_eq_mod]
  show IntKind.i64.wrap ((BitVec.ofInt 64 n &&& BitVec.ofInt 64 255).toNat : Nat) = n % 256
  rw [key, IntKind.wrap_i64]
  omega

theorem grown_setCell (w : World) (a : Addr) (u : Value) : w.grownBy (w.setCell a u) (some a.block) :=
  ⟨rfl, rfl, rfl, by simp [World.setCell], fun k _ hk => Below.heap_setCell w a u k (fun e => hk (by rw [e]))⟩
theorem grown_drew {a w : World} {r : Option Nat} (h : a.grownBy w r) : a.grownBy w.drew r := ⟨h.os, h.tape, h.output, h.size, h.block⟩
theorem grown_set {a w : World} {c : Nat} (h : a.grownBy w (some c)) (o : Nat) (u : Value) : a.grownBy (w.setCell ⟨c, o, none⟩ u) (some c) :=
  ⟨h.os, h.tape, h.output, by have := h.size; simpa [World.setCell] using this, fun k hk hn => (Below.heap_setCell w ⟨c, o, none⟩ u k (fun e => hn (by rw [e]))).trans (h.block k hk hn)⟩

/-- The cursor's block. -/
def CurAt (W : World) (c n cap : Nat) (a0 : Option Addr) (i : Nat) (h : Int) : Prop := W.heap[c]? = some (.cells #[.slice a0 n cap, .int .i64 i, .int .i64 h] 91 (0, 0))
theorem CurAt.set1 {W : World} {c n cap : Nat} {a0 : Option Addr} {i : Nat} {h : Int} (hk : CurAt W c n cap a0 i h) (j : Nat) : CurAt (W.setCell ⟨c, 1, none⟩ (.int .i64 j)) c n cap a0 j h := by
  have := Joins.block_setCell (i := 1) hk (.int .i64 j)
  exact this
theorem CurAt.set2 {W : World} {c n cap : Nat} {a0 : Option Addr} {i : Nat} {h : Int} (hk : CurAt W c n cap a0 i h) (j : Int) : CurAt (W.setCell ⟨c, 2, none⟩ (.int .i64 j)) c n cap a0 i j := by
  have := Joins.block_setCell (i := 2) hk (.int .i64 j)
  exact this
theorem CurAt.drew {W : World} {c n cap : Nat} {a0 : Option Addr} {i : Nat} {h : Int} (hk : CurAt W c n cap a0 i h) : CurAt W.drew c n cap a0 i h := hk

/-- What l1Byte leaves. -/
def ByteGives (c n cap : Nat) (a0 : Option Addr) (w : World) (i : Nat) (e : Ending) (w' : World) : Prop :=
  ∃ x h' : Int, 0 ≤ x ∧ x ≤ 255 ∧ e = .returned (.int .i64 x) ∧ CurAt w' c n cap a0 i h' ∧ w.grownBy w' (some c)
theorem byte_gives {c n cap : Nat} {a0 : Option Addr} {w w' : World} {i : Nat} {y : Int} {e : Ending} (he : e = .returned (.int .i64 (bits .and .i64 y 255))) {h' : Int} (h1 : CurAt w' c n cap a0 i h') (h2 : w.grownBy w' (some c)) : ByteGives c n cap a0 w i e w' :=
  ⟨_, h', by rw [i64_and255]; omega, by rw [i64_and255]; omega, he, h1, h2⟩

theorem byte_end (c n cap : Nat) (a0 : Option Addr) (i : Nat) (h : Int) (w : World) (hk : CurAt w c n cap a0 i h) (hi : ¬ (i : Int) < n) :
    Calls Tryd.prog 62 #[.pointer (some ⟨c, 0, none⟩)] w (ByteGives c n cap a0 w i) := by
  have c0 : w.cell? ⟨c, 0, none⟩ = some (.slice a0 n cap) := Joins.cell_of_block hk 0
  have c1 : w.cell? ⟨c, 1, none⟩ = some (.int .i64 i) := Joins.cell_of_block hk 1
  have c2 : w.cell? ⟨c, 2, none⟩ = some (.int .i64 h) := Joins.cell_of_block hk 2
  have f2 : w.frozen? ⟨c, 2, none⟩ = false := Joins.unfrozen_of_block hk 2
  have HK := Lib.hid hk
  clear hk
  go_enter Tryd.func62, Tryd.ntmps62
  go_wp2
  go_region
  all_goals go_wp2
  go_region
  all_goals go_wp2
  go_ret
  exact byte_gives rfl (HK.out.set2 _) (grown_drew (grown_drew (grown_setCell _ _ _)))

theorem byte_mid (c n cap b off : Nat) (i : Nat) (h x : Int) (w : World) (hk : CurAt w c n cap (some ⟨b, off, none⟩) i h) (hi : i < n) (hn : (n : Int) ≤ 9223372036854775807) (hne : b ≠ c)
    (hx : w.cell? ⟨b, off + i, none⟩ = some (.int .u8 x)) (h0 : 0 ≤ x) (h1 : x ≤ 255) :
    Calls Tryd.prog 62 #[.pointer (some ⟨c, 0, none⟩)] w (ByteGives c n cap (some ⟨b, off, none⟩) w (i + 1)) := by
  have c0 : w.cell? ⟨c, 0, none⟩ = some (.slice (some ⟨b, off, none⟩) n cap) := Joins.cell_of_block hk 0
  have c1 : w.cell? ⟨c, 1, none⟩ = some (.int .i64 i) := Joins.cell_of_block hk 1
  have c2 : w.cell? ⟨c, 2, none⟩ = some (.int .i64 h) := Joins.cell_of_block hk 2
  have f2 : w.frozen? ⟨c, 2, none⟩ = false := Joins.unfrozen_of_block hk 2
  have f1 : w.frozen? ⟨c, 1, none⟩ = false := Joins.unfrozen_of_block hk 1
  have hne' : c ≠ b := fun e => hne e.symm
  have HK := Lib.hid hk
  clear hk
  go_enter Tryd.func62, Tryd.ntmps62
  go_wp2
  go_region
  all_goals go_wp2
  go_region
  all_goals go_wp2
  go_region
  all_goals go_wp2
  go_ret
  exact byte_gives rfl ((HK.out.set2 _).set1 (i + 1)) (grown_drew (grown_drew (grown_drew (grown_set (grown_setCell w ⟨c, 2, none⟩ _) 1 _))))

/-- The bytes of the code, in blocks below B. -/
def Code (B : Nat) (W : World) (a0 : Option Addr) (n : Nat) : Prop :=
  (n : Int) ≤ 9223372036854775807 ∧ ∀ j, j < n → ∃ (b off : Nat) (x : Int), a0 = some ⟨b, off, none⟩ ∧ b < B ∧ W.cell? ⟨b, off + j, none⟩ = some (.int .u8 x) ∧ 0 ≤ x ∧ x ≤ 255
theorem Code.kept {B c n : Nat} {W W' : World} {a0 : Option Addr} (h : Code B W a0 n) (hg : W.grownBy W' (some c)) (hB : B ≤ c) : Code B W' a0 n :=
  ⟨h.1, fun j hj => by
    obtain ⟨b, off, x, e1, e2, e3, e4⟩ := h.2 j hj
    exact ⟨b, off, x, e1, e2, hg.cell e3 (fun e => by simp at e; omega), e4⟩⟩
/-- The cursor at block c over the code. -/
def Cur (B : Nat) (W : World) (c n cap : Nat) (a0 : Option Addr) : Prop := B ≤ c ∧ Code B W a0 n ∧ ∃ i h, CurAt W c n cap a0 i h

/-- A number of the cursor's: within lo .. hi; the cursor is kept, and nothing else is written. -/
def Gives (P : Value → Prop) (B : Nat) (w : World) (c n cap : Nat) (a0 : Option Addr) (e : Ending) (w' : World) : Prop :=
  ∃ v, P v ∧ e = .returned v ∧ Cur B w' c n cap a0 ∧ w.grownBy w' (some c)
def IntIn (lo hi : Int) (v : Value) : Prop := ∃ x : Int, lo ≤ x ∧ x ≤ hi ∧ v = .int .i64 x

theorem byte_any (B : Nat) (w : World) (c n cap : Nat) (a0 : Option Addr) (hk : Cur B w c n cap a0) :
    Calls Tryd.prog 62 #[.pointer (some ⟨c, 0, none⟩)] w (Gives (IntIn 0 255) B w c n cap a0) := by
  obtain ⟨hB, hc, i, h, hk⟩ := hk
  have fin : ∀ i' e w', ByteGives c n cap a0 w i' e w' → Gives (IntIn 0 255) B w c n cap a0 e w' := fun i' e w' ⟨x, h', h0, h1, he, hk', hg⟩ =>
    ⟨_, ⟨x, h0, h1, rfl⟩, he, ⟨hB, hc.kept hg hB, i', h', hk'⟩, hg⟩
  by_cases hi : i < n
  · obtain ⟨b, off, x, rfl, hb, hx, h0, h1⟩ := hc.2 i hi
    exact (byte_mid c n cap b off i h x w hk hi hc.1 (by omega) hx h0 h1).mono (fin _)
  · exact (byte_end c n cap a0 i h w hk (by omega)).mono (fin _)

theorem below_small (m : Int) (h1 : 1 ≤ m) (h2 : m ≤ 256) (B : Nat) (w : World) (c n cap : Nat) (a0 : Option Addr) (hk : Cur B w c n cap a0) :
    Calls Tryd.prog 49 #[.pointer (some ⟨c, 0, none⟩), .int .i64 m] w (Gives (IntIn 0 (m - 1)) B w c n cap a0) := by
  go_enter Tryd.func49, Tryd.ntmps49
  go_wp2_with (go_at_call 62; refine (byte_any B _ c n cap a0 hk).mono ?_; rintro e w1 ⟨v, ⟨x, hx0, hx1, rfl⟩, rfl, hk1, hg1⟩)
  go_ret
  exact ⟨_, ⟨_, Int.emod_nonneg _ (by omega), by have := Int.emod_lt_of_pos x (show 0 < m by omega); omega, rfl⟩, rfl, hk1, hg1⟩
theorem gtrans {a b d : World} {c : Nat} (h : a.grownBy b (some c)) (k : b.grownBy d (some c)) : a.grownBy d (some c) :=
  ⟨k.os.trans h.os, k.tape.trans h.tape, k.output.trans h.output, Nat.le_trans h.size k.size, fun j hj hn => (k.block j (Nat.lt_of_lt_of_le hj h.size) hn).trans (h.block j hj hn)⟩
theorem below_large (m : Int) (h1 : 256 < m) (h2 : m ≤ 4294967296) (B : Nat) (w : World) (c n cap : Nat) (a0 : Option Addr) (hk : Cur B w c n cap a0) :
    Calls Tryd.prog 49 #[.pointer (some ⟨c, 0, none⟩), .int .i64 m] w (Gives (IntIn 0 (m - 1)) B w c n cap a0) := by
  go_enter Tryd.func49, Tryd.ntmps49
  go_wp2_with (go_at_call 62; refine (byte_any B _ c n cap a0 hk).mono ?_; rintro e w1 ⟨v, ⟨x, hx0, hx1, rfl⟩, rfl, hk1, hg1⟩; clear hk)
  go_wp2_with (go_at_call 62; refine (byte_any B _ c n cap a0 hk1).mono ?_; rintro e w2 ⟨v, ⟨y, hy0, hy1, rfl⟩, rfl, hk2, hg2⟩; clear hk1)
  go_wp2_with (go_at_call 62; refine (byte_any B _ c n cap a0 hk2).mono ?_; rintro e w3 ⟨v, ⟨z, hz0, hz1, rfl⟩, rfl, hk3, hg3⟩; clear hk2)
  go_ret
  exact ⟨_, ⟨_, Int.emod_nonneg _ (by omega), by have := Int.emod_lt_of_pos (x * 65536 + y * 256 + z) (show 0 < m by omega); omega, rfl⟩, rfl, hk3, gtrans (gtrans hg1 hg2) hg3⟩
theorem below_any (m : Int) (h1 : 1 ≤ m) (h2 : m ≤ 4294967296) (B : Nat) (w : World) (c n cap : Nat) (a0 : Option Addr) (hk : Cur B w c n cap a0) :
    Calls Tryd.prog 49 #[.pointer (some ⟨c, 0, none⟩), .int .i64 m] w (Gives (IntIn 0 (m - 1)) B w c n cap a0) := by
  by_cases h : m ≤ 256
  · exact below_small m h1 h B w c n cap a0 hk
  · exact below_large m (by omega) h2 B w c n cap a0 hk

theorem once_any (m : Int) (h1 : 1 ≤ m) (h2 : m ≤ 4294967296) (B : Nat) (w : World) (c n cap : Nat) (a0 : Option Addr) (hk : Cur B w c n cap a0) :
    Calls Tryd.prog 61 #[.pointer (some ⟨c, 0, none⟩), .int .i64 m] w (Gives (fun v => ∃ b, v = .bool b) B w c n cap a0) := by
  go_enter Tryd.func61, Tryd.ntmps61
  go_wp2_with (go_at_call 49; refine (below_any m h1 h2 B _ c n cap a0 hk).mono ?_; rintro e w1 ⟨v, ⟨x, hx0, hx1, rfl⟩, rfl, hk1, hg1⟩; clear hk)
  go_ret
  exact ⟨_, ⟨_, rfl⟩, rfl, hk1, hg1⟩

theorem int_any (lo hi : Int) (g m : Nat) (h1 : 1 ≤ m) (h2 : m ≤ 65536) (B : Nat) (w : World) (c n cap : Nat) (a0 : Option Addr) (hk : Cur B w c n cap a0) (hgc : g ≠ c)
    (hl : ∀ j, j < m → ∃ z : Int, lo ≤ z ∧ z ≤ hi ∧ w.cell? ⟨g, j, none⟩ = some (.int .i64 z)) :
    Calls Tryd.prog 51 #[.pointer (some ⟨c, 0, none⟩), .slice (some ⟨g, 0, none⟩) m m] w (Gives (IntIn lo hi) B w c n cap a0) := by
  have HL := Lib.hid hl
  clear hl
  go_enter Tryd.func51, Tryd.ntmps51
  go_wp2_with (go_at_call 49; refine (below_any _ (by omega) (by omega) B _ c n cap a0 hk).mono ?_; rintro e w1 ⟨v, ⟨x, hx0, hx1, rfl⟩, rfl, hk1, hg1⟩; clear hk; obtain ⟨r, rfl⟩ : ∃ r : Nat, x = (r : Int) := ⟨x.toNat, by omega⟩; obtain ⟨z, hz0, hz1, hz⟩ := HL.out r (by omega); have hz2 := hg1.cell hz (by simpa using hgc))
  go_ret
  exact ⟨_, ⟨z, hz0, hz1, rfl⟩, rfl, hk1, hg1⟩
end Go.Proofs.YtmhgejljjjmejaaDoor
namespace Go.Proofs.YtmhgejljjjmejaaDoor
open Go.RowKit

theorem str_any (P : ByteArray → Prop) (g m : Nat) (h1 : 1 ≤ m) (h2 : m ≤ 65536) (B : Nat) (w : World) (c n cap : Nat) (a0 : Option Addr) (hk : Cur B w c n cap a0) (hgc : g ≠ c)
    (hl : ∀ j, j < m → ∃ z : ByteArray, P z ∧ w.cell? ⟨g, j, none⟩ = some (.string z)) :
    Calls Tryd.prog 59 #[.pointer (some ⟨c, 0, none⟩), .slice (some ⟨g, 0, none⟩) m m] w (Gives (fun v => ∃ z, P z ∧ v = .string z) B w c n cap a0) := by
  have HL := Lib.hid hl
  clear hl
  go_enter Tryd.func59, Tryd.ntmps59
  go_wp2_with (go_at_call 49; refine (below_any _ (by omega) (by omega) B _ c n cap a0 hk).mono ?_; rintro e w1 ⟨v, ⟨x, hx0, hx1, rfl⟩, rfl, hk1, hg1⟩; clear hk; obtain ⟨r, rfl⟩ : ∃ r : Nat, x = (r : Int) := ⟨x.toNat, by omega⟩; obtain ⟨z, hz0, hz⟩ := HL.out r (by omega); have hz2 := hg1.cell hz (by simpa using hgc))
  go_ret
  exact ⟨_, ⟨z, hz0, rfl⟩, rfl, hk1, hg1⟩
end Go.Proofs.YtmhgejljjjmejaaDoor
namespace Go.Proofs.YtmhgejljjjmejaaDoor
open Go.RowKit

theorem Cur.alloc {B c n cap : Nat} {w : World} {a0 : Option Addr} (hk : Cur B w c n cap a0) (o : Obj) : Cur B (w.alloc o) c n cap a0 := by
  obtain ⟨hB, hc, i, h, hk⟩ := hk
  have hlt : c < w.heap.size := (Array.getElem?_eq_some_iff.1 hk).1
  exact ⟨hB, hc.kept (World.grownBy_alloc w o _) hB, i, h, ((World.grownBy_alloc w o none).block c hlt (by simp)).trans hk⟩
theorem Cur.ne {B c n cap : Nat} {w : World} {a0 : Option Addr} (hk : Cur B w c n cap a0) : w.heap.size ≠ c := by
  obtain ⟨hB, hc, i, h, hk⟩ := hk
  have hlt : c < w.heap.size := (Array.getElem?_eq_some_iff.1 hk).1
  omega
theorem row_ints (w : World) (zs : List Int) (t : TypeId) (lo hi : Int) (h : ∀ z ∈ zs, lo ≤ z ∧ z ≤ hi) (j : Nat) (hj : j < zs.length) :
    ∃ z : Int, lo ≤ z ∧ z ≤ hi ∧ (w.alloc (.cells (zs.map (Value.int .i64)).toArray t)).cell? ⟨w.heap.size, j, none⟩ = some (.int .i64 z) := by
  refine ⟨zs[j], (h _ (List.getElem_mem _)).1, (h _ (List.getElem_mem _)).2, ?_⟩
  rw [World.cell?_alloc_mark]
  simp [hj]
theorem row_strs (w : World) (zs : List ByteArray) (t : TypeId) (P : ByteArray → Prop) (h : ∀ z ∈ zs, P z) (j : Nat) (hj : j < zs.length) :
    ∃ z : ByteArray, P z ∧ (w.alloc (.cells (zs.map Value.string).toArray t)).cell? ⟨w.heap.size, j, none⟩ = some (.string z) := by
  refine ⟨zs[j], h _ (List.getElem_mem _), ?_⟩
  rw [World.cell?_alloc_mark]
  simp [hj]

/-- The bounds of an int. -/
def LO : Int := -9223372036854775808
def HI : Int := 9223372036854775807
def AnyInt : Value → Prop := IntIn LO HI
theorem any_of {lo hi : Int} {v : Value} (h : IntIn lo hi v) (h1 : -9223372036854775808 ≤ lo) (h2 : hi ≤ 9223372036854775807) : AnyInt v := by
  obtain ⟨x, h0, h3, rfl⟩ := h
  exact ⟨x, by unfold LO; omega, by unfold HI; omega, rfl⟩
def odds : List Int := [-1, 0, 1, 2, 255, 256, 65535, 2147483647, 2147483648, 4294967295, 4294967296, -2147483648, 9223372036854775807, -9223372036854775808]
theorem odds_in : ∀ z ∈ odds, LO ≤ z ∧ z ≤ HI := by decide
theorem Gives.any {P Q : Value → Prop} {B c n cap : Nat} {w w' : World} {a0 : Option Addr} {e : Ending} (h : Gives P B w c n cap a0 e w') (hPQ : ∀ v, P v → Q v) : Gives Q B w c n cap a0 e w' := by
  obtain ⟨v, hv, h⟩ := h
  exact ⟨v, hPQ v hv, h⟩

def raws : List Int := [-1, 1000000000000, 1000000000001]
theorem raws_in : ∀ z ∈ raws, LO ≤ z ∧ z ≤ HI := by decide
def nums : List Int := [0, 1, 127, 128, 2147483646, 2147483647, 1000000000000]
theorem nums_in : ∀ z ∈ nums, (0 : Int) ≤ z ∧ z ≤ 1000000000000 := by decide
theorem mul_in {y z : Int} (h0 : 0 ≤ y) (h1 : y ≤ 999999) (h2 : 0 ≤ z) (h3 : z ≤ 999999) : 0 ≤ y * z ∧ y * z ≤ 999998000001 :=
  ⟨Int.mul_nonneg h0 h2, Int.le_trans (Int.mul_le_mul h1 h3 h2 (by decide)) (by decide)⟩
theorem new_empty (cap : Nat) (a0 : Option Addr) (w : World) :
    Calls Tryd.prog 29 #[.slice a0 0 cap] w fun e w' => ∃ c, e = .returned (.pointer (some ⟨c, 0, none⟩)) ∧ Cur w.heap.size w' c 0 cap a0 ∧ Below w.heap.size w w' := by
  go_enter Tryd.func29, Tryd.ntmps29
  go_wp2
  go_loop [3, 4] (fun h i => (∃ x : Int, h = .int .i64 x) ∧ i = .int .i64 0) (fun _ _ => 0)
  case atStart => exact ⟨⟨_, rfl⟩, rfl⟩
  case round =>
    obtain ⟨⟨x, rfl⟩, rfl⟩ := hrel
    go_wp2
    go_ret
    refine ⟨_, rfl, ⟨Nat.le_refl _, ⟨by decide, fun j hj => by omega⟩, 0, x, heap_alloc_new w _⟩, (Below.refl _ _).alloc (Nat.le_refl _) _⟩
theorem new_some (n cap b off : Nat) (w : World) (hc : Code w.heap.size w (some ⟨b, off, none⟩) n) (hn : n ≤ 1048576) :
    Calls Tryd.prog 29 #[.slice (some ⟨b, off, none⟩) n cap] w fun e w' => ∃ c, e = .returned (.pointer (some ⟨c, 0, none⟩)) ∧ Cur w.heap.size w' c n cap (some ⟨b, off, none⟩) ∧ Below w.heap.size w w' := by
  have HC := Lib.hid hc
  clear hc
  go_enter Tryd.func29, Tryd.ntmps29
  go_wp2
  go_loop [3, 4] (fun h i => ∃ (k : Nat) (x : Int), k ≤ n ∧ h = .int .i64 x ∧ i = .int .i64 k) (fun _ i => n - (intOf i).toNat)
  case atStart => exact ⟨0, _, Nat.zero_le _, rfl, rfl⟩
  case round =>
    obtain ⟨k, x, hk, rfl, rfl⟩ := hrel
    by_cases h1 : k < n
    · obtain ⟨b', off', z, e1, e2, e3, e4, e5⟩ := HC.out.2 k h1
      cases e1
      clear e2
      have d1 : decide ((k : Int) < n) = true := decide_eq_true (by omega)
      by_cases h2 : k < 4000
      · have d2 : decide ((k : Int) < 4000) = true := decide_eq_true (by omega)
        go_wp2
        go_round
        case rel => exact ⟨k + 1, _, by omega, rfl, by go_num⟩
        case measure => simp [intOf]; omega
      · have d2 : decide ((k : Int) < 4000) = false := decide_eq_false (by omega)
        go_wp2
        go_ret
        exact ⟨_, rfl, ⟨Nat.le_refl _, HC.out.kept (World.grownBy_alloc w _ _) (Nat.le_refl _), 0, x, heap_alloc_new w _⟩, (Below.refl _ _).alloc (Nat.le_refl _) _⟩
    · have d1 : decide ((k : Int) < n) = false := decide_eq_false (by omega)
      go_wp2
      go_ret
      exact ⟨_, rfl, ⟨Nat.le_refl _, HC.out.kept (World.grownBy_alloc w _ _) (Nat.le_refl _), 0, x, heap_alloc_new w _⟩, (Below.refl _ _).alloc (Nat.le_refl _) _⟩
/-- spec.l1New: a new cursor over the code. -/
theorem new_any (n cap : Nat) (a0 : Option Addr) (w : World) (hc : Code w.heap.size w a0 n) (hn : n ≤ 1048576) :
    Calls Tryd.prog 29 #[.slice a0 n cap] w fun e w' => ∃ c, e = .returned (.pointer (some ⟨c, 0, none⟩)) ∧ Cur w.heap.size w' c n cap a0 ∧ Below w.heap.size w w' := by
  by_cases h : n = 0
  · subst h
    exact new_empty cap a0 w
  · obtain ⟨b, off, x, rfl, _⟩ := hc.2 0 (by omega)
    exact new_some n cap b off w hc hn
end Go.Proofs.YtmhgejljjjmejaaDoor
namespace Go.Proofs.YtmhgejljjjmejaaDoor
open Go.RowKit

theorem Cur.lt {B c n cap : Nat} {w : World} {a0 : Option Addr} (hk : Cur B w c n cap a0) : c < w.heap.size := by
  obtain ⟨hB, hc, i, h, hk⟩ := hk
  exact (Array.getElem?_eq_some_iff.1 hk).1
theorem own_not {w : World} {base n c : Nat} {e : TypeId} {v : Value} {xs : List Value} (h : w.ownsRow base e 1 v n xs) (hc : c < base) : v.ownBlock = none ∨ v.ownBlock ≠ some c := by
  cases hv : v.ownBlock with
  | none => exact .inl rfl
  | some k =>
    right
    intro e
    have h1 := (h.lt k hv).1
    cases e
    omega
/-- The cursor stays where an owned row is written. -/
theorem Cur.kept_own {B c n cap base m : Nat} {w w' : World} {a0 : Option Addr} {e : TypeId} {v : Value} {xs : List Value} (hk : Cur B w c n cap a0) (hg : w.grownBy w' v.ownBlock) (ho : w.ownsRow base e 1 v m xs) (hc : c < base) (_hB : B ≤ base) : Cur B w' c n cap a0 := by
  have hlt := hk.lt
  obtain ⟨hBc, hco, i, h, hk⟩ := hk
  refine ⟨hBc, ⟨hco.1, fun j hj => ?_⟩, i, h, ?_⟩
  · obtain ⟨b, off, x, e1, e2, e3, e4⟩ := hco.2 j hj
    exact ⟨b, off, x, e1, e2, hg.cell e3 (fun e => by have := (ho.lt b e.symm).1; omega), e4⟩
  · exact (hg.block c hlt (fun e => by have := (ho.lt c e.symm).1; omega)).trans hk
theorem grown_own {a w w' : World} {c base m : Nat} {e : TypeId} {v : Value} {xs : List Value} (h : a.grownBy w (some c)) (hg : w.grownBy w' v.ownBlock) (ho : w.ownsRow base e 1 v m xs) (hB : a.heap.size ≤ base) : a.grownBy w' (some c) :=
  ⟨hg.os.trans h.os, hg.tape.trans h.tape, hg.output.trans h.output, Nat.le_trans h.size hg.size, fun j hj hn => (hg.block j (Nat.lt_of_lt_of_le hj h.size) (fun e => by have := (ho.lt j e.symm).1; omega)).trans (h.block j hj hn)⟩

/-- What a draw of bytes leaves. -/
def BytesDrawn (B lo hi : Nat) (w : World) (c n cap : Nat) (a0 : Option Addr) (e : Ending) (w' : World) : Prop :=
  ∃ (L : List Int) (v : Value), lo ≤ L.length ∧ L.length ≤ hi ∧ (∀ z ∈ L, 0 ≤ z ∧ z ≤ 255) ∧ e = .returned v ∧ w'.ownsRow w.heap.size 5 1 v L.length (L.map (Value.int .u8)) ∧ Cur B w' c n cap a0 ∧ w.grownBy w' (some c)

theorem below_grown2 {B c : Nat} {w w' : World} (h : w.grownBy w' (some c)) (hB : B ≤ c) (hw : B ≤ w.heap.size) : Below B w w' :=
  ⟨h.os, h.tape, h.output, h.size, fun k hk => h.block k (by omega) (by simp; omega)⟩

end Go.Proofs.YtmhgejljjjmejaaDoor
