/-
  The model's contracts of chapter 8, first part: l8From.
  The model's contracts of chapter 8, second part: SlotsOf.   The model's contracts of chapter 8, third part: CellsOf, l8Has, SlotsAt.
  The model's contracts of chapter 8, fourth part: CellsOf.   The model's contracts of chapter 8, fifth part: SlotsAt.
-/
import Derived.Test.YtmhgejljjjmejaaDoorSlotPure
import Derived.Test.YtmhgejljjjmejaaDoorGrid
import Derived.Test.YtmhgejljjjmejaaDoorSlotS
import Derived.Test.YtmhgejljjjmejaaDoorKit
import Derived.BigQuiet
import Derived.Deep.RegionWith
import Derived.Deep.RegionHeld3
namespace Go.Proofs.YtmhgejljjjmejaaDoor
open Go.RowKit

theorem whF_eq (s : ByteArray) (k : Nat) (h : k < s.size) : whF s k = decide (s[k] = 46) := by
  unfold whF
  rw [getD_byte s k h]
theorem white_eq {s : ByteArray} {k : Nat} (h : k < s.size) (hw : whF s k = true) : ((s[k].toNat : Int) == 46) = true ∧ ((s[k].toNat : Int) != 46) = false := by
  rw [whF_eq s k h] at hw
  rw [of_decide_eq_true hw]
  exact ⟨rfl, rfl⟩
theorem black_eq {s : ByteArray} {k : Nat} (h : k < s.size) (hw : whF s k = false) : ((s[k].toNat : Int) == 46) = false ∧ ((s[k].toNat : Int) != 46) = true := by
  rw [whF_eq s k h] at hw
  have h9 := of_decide_eq_false hw
  have h8 : ¬ ((s[k].toNat : Int) = 46) := fun e => h9 (UInt8.toNat_inj.1 (by show s[k].toNat = 46; omega))
  exact ⟨by simpa using h8, by simpa using h8⟩
theorem row_back {i c j : Nat} (h : 0 < i) : i * c + j = ((i - 1) * c + j) + c := by
  obtain ⟨k, rfl⟩ : ∃ k, i = k + 1 := ⟨i - 1, by omega⟩
  rw [Nat.succ_mul, Nat.add_sub_cancel]
  omega
theorem row_on (i c j n : Nat) : i * c + j + n * c = (i + n) * c + j := by
  rw [Nat.add_mul]
  omega
end Go.Proofs.YtmhgejljjjmejaaDoor
namespace Go.Proofs.YtmhgejljjjmejaaDoor
open Go.RowKit

theorem own_zero (w : World) (e : TypeId) (s : Nat) : (w.alloc (.cells #[] e)).ownsRow w.heap.size e s (.slice (some ⟨w.heap.size, 0, none⟩) 0 0) 0 [] :=
  ⟨by simp, .inr ⟨w.heap.size, 0, #[], rfl, Nat.le_refl _, heap_alloc_new w _, Nat.le_refl _, by decide, by simp, by simp⟩⟩
theorem own_widen {W : World} {base base' n s : Nat} {e : TypeId} {v : Value} {xs : List Value} (h : W.ownsRow base' e s v n xs) (hb : base ≤ base') : W.ownsRow base e s v n xs := by
  refine ⟨h.1, ?_⟩
  rcases h.2 with hn | ⟨g, cap, cur, rfl, hbg, rest⟩
  · exact .inl hn
  · exact .inr ⟨g, cap, cur, rfl, Nat.le_trans hb hbg, rest⟩
theorem below_app {B base : Nat} {a w w' : World} {e : TypeId} {v : Value} {n s : Nat} {xs : List Value} (h : Below B a w) (hg : w.grownBy w' v.ownBlock) (ho : w.ownsRow base e s v n xs) (hB : B ≤ base) (hw : B ≤ w.heap.size) : Below B a w' :=
  h.grown hg hw (fun k hk => Nat.le_trans hB (ho.lt k hk).1)
theorem oneSl (w : World) (x : SlotV) (t : TypeId) : ∀ j, j < 1 * 4 → ∃ b off, some (⟨w.heap.size, 0, none⟩ : Addr) = some ⟨b, off, none⟩ ∧ (w.alloc (.cells #[.int .i64 x.1, .bool x.2.1, .int .i64 x.2.2.1, .int .i64 x.2.2.2] t)).cell? ⟨b, off + j, none⟩ = (cells_Slot x)[j]? := fun j hj => by
  refine ⟨_, _, rfl, ?_⟩
  rw [Nat.zero_add, cell_of_row _ w.heap.size j _ t (0, 0) (heap_alloc_new w _)]
  simp [cells_Slot]

theorem cells_Slot_one (x : SlotV) : ∀ u ∈ cells_Slot x, u.oneCell' = true := by
  intro u hu
  simp only [cells_Slot, List.mem_cons, List.not_mem_nil, or_false] at hu
  rcases hu with rfl | rfl | rfl | rfl <;> rfl
theorem row_Slot_snoc (L : List SlotV) (x : SlotV) : row_Slot L ++ cells_Slot x = row_Slot (L ++ [x]) := by
  rw [row_Slot_append]
  simp [row_Slot]

/-- One cell of SlotsOf: the number and the slots, taken on. -/
def stepSl (x : Nat × List SlotV) (k a d : Nat) : Nat × List SlotV :=
  (if 2 ≤ a ∨ 2 ≤ d then x.1 + 1 else x.1, x.2 ++ (if 2 ≤ a then [(((if 2 ≤ a ∨ 2 ≤ d then x.1 + 1 else x.1 : Nat) : Int), false, (k : Int), (a : Int))] else []) ++ (if 2 ≤ d then [(((if 2 ≤ a ∨ 2 ≤ d then x.1 + 1 else x.1 : Nat) : Int), true, (k : Int), (d : Int))] else []))
def slTo (r c : Nat) (s : ByteArray) : Nat → Nat × List SlotV
  | 0 => (0, [])
  | k + 1 => stepSl (slTo r c s k) k (acN c s k) (dnN r c s k)
/-- What SlotsOf answers. -/
def slG (g : Int × Int × ByteArray) : List SlotV := if isG g = true then (slTo g.1.toNat g.2.1.toNat g.2.2 (g.1.toNat * g.2.1.toNat)).2 else []
theorem stepSl_bound (x : Nat × List SlotV) (k a d : Nat) (h1 : x.1 ≤ k) (h2 : x.2.length ≤ 2 * k) : (stepSl x k a d).1 ≤ k + 1 ∧ (stepSl x k a d).2.length ≤ 2 * (k + 1) := by
  by_cases ha : 2 ≤ a <;> by_cases hd : 2 ≤ d <;> simp [stepSl, ha, hd] <;> omega
theorem slTo_bound (r c : Nat) (s : ByteArray) : ∀ k, (slTo r c s k).1 ≤ k ∧ (slTo r c s k).2.length ≤ 2 * k
  | 0 => ⟨Nat.le_refl _, Nat.le_refl _⟩
  | k + 1 => stepSl_bound _ k _ _ (slTo_bound r c s k).1 (slTo_bound r c s k).2
theorem isG_nat {r c : Int} {s : ByteArray} (h : isG (r, c, s) = true) : ∃ R C : Nat, r = R ∧ c = C ∧ 2 ≤ R ∧ R ≤ 6 ∧ 2 ≤ C ∧ C ≤ 6 ∧ s.size = R * C ∧ s.size ≤ 36 := by
  have h36 := isG_size h
  obtain ⟨⟨h1, h2⟩, ⟨h3, h4⟩, h5, -⟩ := of_decide_eq_true h
  have h1 : 2 ≤ r := h1
  have h2 : r ≤ 6 := h2
  have h3 : 2 ≤ c := h3
  have h4 : c ≤ 6 := h4
  refine ⟨r.toNat, c.toNat, by omega, by omega, by omega, by omega, by omega, by omega, ?_, h36⟩
  have e1 : ((r.toNat * c.toNat : Nat) : Int) = r * c := by rw [Int.natCast_mul, Int.toNat_of_nonneg (by omega), Int.toNat_of_nonneg (by omega)]
  have h5' : (s.size : Int) = r * c := h5
  omega
theorem box3_all (w : World) (r c : Int) (s : ByteArray) (t : TypeId) : ∀ w', Below (w.alloc (.cells #[.int .i64 r, .int .i64 c, .string s] t)).heap.size (w.alloc (.cells #[.int .i64 r, .int .i64 c, .string s] t)) w' → w'.cell? ⟨w.heap.size, 0, none⟩ = some (.int .i64 r) ∧ w'.cell? ⟨w.heap.size, 1, none⟩ = some (.int .i64 c) ∧ w'.cell? ⟨w.heap.size, 2, none⟩ = some (.string s) :=
  fun _ h => ⟨(box3_keep h).1, (box3_keep h).2.1, (box3_keep h).2.2.1⟩
theorem sl_cells {R C k : Nat} {s : ByteArray} (hs : s.size = R * C) (hk : k < s.size) (hC : 2 ≤ C) : k = k / C * C + k % C ∧ k % C < C ∧ k / C < R ∧ (∀ x, x < C → k / C * C + x < s.size) ∧ (∀ x, x < R → x * C + k % C < s.size) := by
  have h1 : k % C < C := Nat.mod_lt _ (by omega)
  have h2 : k / C < R := by rw [Nat.div_lt_iff_lt_mul (by omega)]; omega
  refine ⟨by rw [Nat.mul_comm]; exact (Nat.div_add_mod k C).symm, h1, h2, fun x hx => ?_, fun x hx => ?_⟩
  · have : (k / C + 1) * C ≤ R * C := Nat.mul_le_mul_right C h2
    rw [Nat.succ_mul] at this
    omega
  · have : (x + 1) * C ≤ R * C := Nat.mul_le_mul_right C hx
    rw [Nat.succ_mul] at this
    omega
theorem runAt_le (bs : List Bool) (j : Nat) : runAt bs j ≤ bs.length := by
  unfold runAt
  split
  · refine Nat.le_trans (List.takeWhile_sublist _).length_le ?_
    rw [List.length_drop]
    omega
  · exact Nat.zero_le _
theorem acN_le (c : Nat) (s : ByteArray) (k : Nat) : acN c s k ≤ c := by
  have h := runAt_le (rowB c s (k / c)) (k % c)
  unfold rowB at h
  rw [List.length_map, List.length_range] at h
  exact h
theorem dnN_le (r c : Nat) (s : ByteArray) (k : Nat) : dnN r c s k ≤ r := by
  have h := runAt_le (colB r c s (k % c)) (k / c)
  unfold colB at h
  rw [List.length_map, List.length_range] at h
  exact h
end Go.Proofs.YtmhgejljjjmejaaDoor
namespace Go.Proofs.YtmhgejljjjmejaaDoor
open Go.RowKit

/-- What is known of a slot of SlotsOf. -/
def SlotAt (r c : Nat) (s : ByteArray) (k : Nat) (x : SlotV) : Prop :=
  ∃ m : Nat, m < k ∧ x.2.2.1 = m ∧ 1 ≤ x.1 ∧ (x.2.1 = false → x.2.2.2 = (acN c s m : Nat) ∧ 2 ≤ acN c s m) ∧ (x.2.1 = true → x.2.2.2 = (dnN r c s m : Nat) ∧ 2 ≤ dnN r c s m)
theorem stepSl_mem {x : Nat × List SlotV} {k a d : Nat} {y : SlotV} (h : y ∈ (stepSl x k a d).2) : y ∈ x.2 ∨ (2 ≤ a ∧ y = (((x.1 + 1 : Nat) : Int), false, (k : Int), (a : Int))) ∨ (2 ≤ d ∧ y = (((x.1 + 1 : Nat) : Int), true, (k : Int), (d : Int))) := by
  unfold stepSl at h
  rw [List.mem_append, List.mem_append] at h
  rcases h with (h | h) | h
  · exact .inl h
  · split at h
    · rename_i ha
      rw [if_pos (.inl ha)] at h
      exact .inr (.inl ⟨ha, List.mem_singleton.1 h⟩)
    · cases h
  · split at h
    · rename_i hd
      rw [if_pos (.inr hd)] at h
      exact .inr (.inr ⟨hd, List.mem_singleton.1 h⟩)
    · cases h
theorem slTo_mem (r c : Nat) (s : ByteArray) : ∀ k, ∀ x ∈ (slTo r c s k).2, SlotAt r c s k x
  | 0 => fun x hx => by cases hx
  | k + 1 => fun x hx => by
    rcases stepSl_mem hx with h | ⟨h2, rfl⟩ | ⟨h2, rfl⟩
    · obtain ⟨m, h1, h2, h3⟩ := slTo_mem r c s k x h
      exact ⟨m, by omega, h2, h3⟩
    · exact ⟨k, by omega, rfl, by show (1 : Int) ≤ ((_ + 1 : Nat) : Int); omega, fun _ => ⟨rfl, h2⟩, fun e => by cases e⟩
    · exact ⟨k, by omega, rfl, by show (1 : Int) ≤ ((_ + 1 : Nat) : Int); omega, (fun e => by cases e), fun _ => ⟨rfl, h2⟩⟩
theorem slTo_pw (r c : Nat) (s : ByteArray) : ∀ k, (slTo r c s k).2.Pairwise befS
  | 0 => List.Pairwise.nil
  | k + 1 => by
    show (stepSl (slTo r c s k) k (acN c s k) (dnN r c s k)).2.Pairwise befS
    have h1 := slTo_pw r c s k
    have h2 := slTo_mem r c s k
    obtain ⟨y, hy⟩ : ∃ y, y = slTo r c s k := ⟨_, rfl⟩
    rw [← hy] at h1 h2 ⊢
    have h3 : ∀ x ∈ y.2, x.2.2.1 < (k : Int) := fun x hx => by
      obtain ⟨m, e1, e2, -⟩ := h2 x hx
      omega
    unfold stepSl
    rw [List.pairwise_append, List.pairwise_append]
    refine ⟨⟨h1, ?_, fun x hx z hz => ?_⟩, ?_, fun x hx z hz => ?_⟩
    · split
      · exact List.pairwise_singleton ..
      · exact List.Pairwise.nil
    · split at hz
      · obtain rfl := List.mem_singleton.1 hz
        exact .inl (h3 x hx)
      · cases hz
    · split
      · exact List.pairwise_singleton ..
      · exact List.Pairwise.nil
    · have ez : z.2.2.1 = (k : Int) ∧ z.2.1 = true := by
        split at hz
        · obtain rfl := List.mem_singleton.1 hz
          exact ⟨rfl, rfl⟩
        · cases hz
      rcases List.mem_append.1 hx with h | h
      · exact .inl (by rw [ez.1]; exact h3 x h)
      · split at h
        · obtain rfl := List.mem_singleton.1 h
          exact .inr ⟨ez.1.symm, rfl, ez.2⟩
        · cases h
theorem slG_cases (g : Int × Int × ByteArray) : slG g = [] ∨ ∃ R C : Nat, isG g = true ∧ g.1 = R ∧ g.2.1 = C ∧ 2 ≤ R ∧ R ≤ 6 ∧ 2 ≤ C ∧ C ≤ 6 ∧ g.2.2.size = R * C ∧ g.2.2.size ≤ 36 ∧ slG g = (slTo R C g.2.2 (R * C)).2 := by
  obtain ⟨r, c, s⟩ := g
  by_cases h : isG (r, c, s) = true
  · right
    obtain ⟨R, C, rfl, rfl, h1, h2, h3, h4, h5, h6⟩ := isG_nat h
    exact ⟨R, C, h, rfl, rfl, h1, h2, h3, h4, h5, h6, by unfold slG; rw [if_pos h]; rfl⟩
  · left
    unfold slG
    rw [if_neg h]
theorem slG_pw (g : Int × Int × ByteArray) : (slG g).Pairwise befS := by
  rcases slG_cases g with h | ⟨R, C, -, -, -, -, -, -, -, -, -, h⟩
  · rw [h]; exact List.Pairwise.nil
  · rw [h]; exact slTo_pw ..
theorem slG_nodup (g : Int × Int × ByteArray) : (slG g).Nodup :=
  (slG_pw g).imp (fun {x y} h e => by subst e; exact befS_irr x x h h)
theorem slG_length (g : Int × Int × ByteArray) : (slG g).length ≤ 72 := by
  rcases slG_cases g with h | ⟨R, C, -, -, -, -, -, -, -, h1, h2, h⟩
  · rw [h]; decide
  · have := (slTo_bound R C g.2.2 (R * C)).2
    rw [h]
    omega
/-- A slot of SlotsOf has small numbers. -/
theorem slG_small {g : Int × Int × ByteArray} {x : SlotV} (h : x ∈ slG g) : isG g = true ∧ (2 ≤ g.2.1 ∧ g.2.1 ≤ 6) ∧ (0 ≤ x.2.2.1 ∧ x.2.2.1 < 36) ∧ (2 ≤ x.2.2.2 ∧ x.2.2.2 ≤ 6) ∧ 1 ≤ x.1 := by
  rcases slG_cases g with h0 | ⟨R, C, hg, e1, e2, h1, h2, h3, h4, h5, h6, h7⟩
  · rw [h0] at h; cases h
  · rw [h7] at h
    obtain ⟨m, hm, e3, h9, ha, hd⟩ := slTo_mem _ _ _ _ _ h
    refine ⟨hg, by omega, by omega, ?_, h9⟩
    rcases hx : x.2.1 with _ | _
    · obtain ⟨e4, h8⟩ := ha hx
      have := acN_le C g.2.2 m
      omega
    · obtain ⟨e4, h8⟩ := hd hx
      have := dnN_le R C g.2.2 m
      omega
/-- The cells of a slot, c columns. -/
def cellsS (c : Int) (x : SlotV) : List Int := (List.range x.2.2.2.toNat).map fun (k : Nat) => x.2.2.1 + (k : Int) * (if x.2.1 = true then c else 1)
/-- What CellsOf answers. -/
def clG (g : Int × Int × ByteArray) (x : SlotV) : List Int := if x ∈ slG g then cellsS g.2.1 x else []
/-- What l8Has answers. -/
def hasI (l : List Int) (n : Int) : Bool := l.any fun y => decide (y = n)
theorem hasI_iff {l : List Int} {n : Int} : hasI l n = true ↔ n ∈ l := by
  unfold hasI
  rw [List.any_eq_true]
  constructor
  · rintro ⟨y, hy, h⟩
    rw [← of_decide_eq_true h]
    exact hy
  · exact fun h => ⟨n, h, by simp⟩
end Go.Proofs.YtmhgejljjjmejaaDoor
namespace Go.Proofs.YtmhgejljjjmejaaDoor
open Go.RowKit

theorem box_two (w : World) (r c : Int) (s : ByteArray) (x0 : Int) (x1 : Bool) (x2 x3 : Int) (t u : TypeId) : ∀ w', Below ((w.alloc (.cells #[.int .i64 r, .int .i64 c, .string s] t)).alloc (.cells #[.int .i64 x0, .bool x1, .int .i64 x2, .int .i64 x3] u)).heap.size ((w.alloc (.cells #[.int .i64 r, .int .i64 c, .string s] t)).alloc (.cells #[.int .i64 x0, .bool x1, .int .i64 x2, .int .i64 x3] u)) w' →
    w'.cell? ⟨w.heap.size, 0, none⟩ = some (.int .i64 r) ∧ w'.cell? ⟨w.heap.size, 1, none⟩ = some (.int .i64 c) ∧ w'.cell? ⟨w.heap.size, 2, none⟩ = some (.string s) ∧
    w'.cell? ⟨w.heap.size + 1, 0, none⟩ = some (.int .i64 x0) ∧ w'.cell? ⟨w.heap.size + 1, 1, none⟩ = some (.bool x1) ∧ w'.cell? ⟨w.heap.size + 1, 2, none⟩ = some (.int .i64 x2) ∧ w'.cell? ⟨w.heap.size + 1, 3, none⟩ = some (.int .i64 x3) ∧ Below w.heap.size w w' := fun w' h => by
  obtain ⟨h1, h2, h3⟩ := box33 h
  exact ⟨Joins.cell_of_block h1 0, Joins.cell_of_block h1 1, Joins.cell_of_block h1 2, Joins.cell_of_block h2 0, Joins.cell_of_block h2 1, Joins.cell_of_block h2 2, Joins.cell_of_block h2 3, h3⟩
theorem eql_slot (a b : SlotV) (w : World) : Sem.run Tryd.prog (binOp .eql 33 (.agg #[.int .i64 a.1, .bool a.2.1, .int .i64 a.2.2.1, .int .i64 a.2.2.2]) (.agg #[.int .i64 b.1, .bool b.2.1, .int .i64 b.2.2.1, .int .i64 b.2.2.2])) w = .ok (.bool (decide (a = b))) w := by
  have u3 := Tryd.underlying3
  have u4 := Tryd.underlying4
  have a3 := Tryd.isAgg3
  have a4 := Tryd.isAgg4
  have z3 := Tryd.sizeOf3
  have z4 := Tryd.sizeOf4
  have hS : Tryd.prog.underlying 33 = some (.struct (Tryd.prog.fieldsOf 33)) := by kernel_rfl
  have hp : Tryd.prog.stoodInHeld 33 = false := by kernel_rfl
  obtain ⟨a0, a1, a2, a3⟩ := a
  obtain ⟨b0, b1, b2, b3⟩ := b
  rw [run_eql_struct, show (10000 : Nat) = 9999 + 1 from rfl, run_equalIn_agg w 9999 33 _ _ hS hp]
  simp only [Program.fieldsOf, Tryd.underlying33]
  go_simp
  by_cases h1 : a0 = b0 <;> by_cases h2 : a1 = b1 <;> by_cases h3 : a2 = b2 <;> by_cases h4 : a3 = b3 <;> simp [h1, h2, h3, h4]
theorem slot_differ {a b : SlotV} (h : a ≠ b) : (a.1 == b.1) = false ∨ (b.1 = a.1 ∧ (a.2.1 == b.2.1) = false) ∨ (b.1 = a.1 ∧ b.2.1 = a.2.1 ∧ (a.2.2.1 == b.2.2.1) = false) ∨ (b.1 = a.1 ∧ b.2.1 = a.2.1 ∧ b.2.2.1 = a.2.2.1 ∧ (a.2.2.2 == b.2.2.2) = false) := by
  by_cases h1 : a.1 = b.1
  · right
    by_cases h2 : a.2.1 = b.2.1
    · right
      by_cases h3 : a.2.2.1 = b.2.2.1
      · right
        refine ⟨h1.symm, h2.symm, h3.symm, ?_⟩
        by_cases h4 : a.2.2.2 = b.2.2.2
        · exact absurd (Prod.ext h1 (Prod.ext h2 (Prod.ext h3 h4))) h
        · simpa using h4
      · exact .inl ⟨h1.symm, h2.symm, by simpa using h3⟩
    · exact .inl ⟨h1.symm, by simpa using h2⟩
  · exact .inl (by simpa using h1)
theorem cells_next (x : SlotV) (c : Int) (k : Nat) : ((List.range (k + 1)).map fun (k : Nat) => x.2.2.1 + (k : Int) * (if x.2.1 = true then c else 1)) = ((List.range k).map fun (k : Nat) => x.2.2.1 + (k : Int) * (if x.2.1 = true then c else 1)) ++ [x.2.2.1 + (k : Int) * (if x.2.1 = true then c else 1)] := by
  rw [List.range_succ, List.map_append]
  rfl
theorem info_int : (Tryd.prog.info? 3).map (fun i => (i.zero, i.size, i.bytes)) = some (some (.int .i64 0), 1, 8) := by kernel_rfl
theorem own_types {W : World} {base base' n m s s' : Nat} {e e' : TypeId} {v u : Value} {xs ys : List Value} (h : W.ownsRow base e s v n xs) (h' : W.ownsRow base' e' s' u m ys) (he : e ≠ e') : u.ownBlock = none ∨ u.ownBlock ≠ v.ownBlock := by
  rcases h'.2 with ⟨rfl, -⟩ | ⟨g', cap', cur', rfl, -, hg', -⟩
  · exact .inl rfl
  · right
    rcases h.2 with ⟨rfl, -⟩ | ⟨g, cap, cur, rfl, -, hg, -⟩
    · intro e; cases e
    · intro e9
      have e8 : g' = g := by simpa [Value.ownBlock] using e9
      subst e8
      rw [hg] at hg'
      cases hg'
      exact he rfl
theorem slot_cells {W : World} {base m cap : Nat} {e : TypeId} {a0 : Option Addr} {l : List SlotV} (h : W.ownsRow base e 4 (.slice a0 m cap) m (row_Slot l)) (hn : m = l.length) :
    ∀ j, j < l.length → ∃ b, a0 = some ⟨b, 0, none⟩ ∧ W.cell? ⟨b, j * 4, none⟩ = some (.int .i64 (l.getD j none_Slot).1) ∧ W.cell? ⟨b, j * 4 + 1, none⟩ = some (.bool (l.getD j none_Slot).2.1) ∧ W.cell? ⟨b, j * 4 + 2, none⟩ = some (.int .i64 (l.getD j none_Slot).2.2.1) ∧ W.cell? ⟨b, j * 4 + 3, none⟩ = some (.int .i64 (l.getD j none_Slot).2.2.2) := by
  subst hn
  intro j hj
  have h2 := h.2
  rcases h2 with ⟨e1, e2⟩ | ⟨g, cap', cur, e1, -⟩
  · omega
  · cases e1
    have hat : ∀ r, r < 4 → W.cell? ⟨g, j * 4 + r, none⟩ = (cells_Slot (l.getD j none_Slot))[r]? := fun r hr => by
      rw [h.cellAt (j * 4 + r) (by omega), row_Slot_at l j hj r hr]
      simp [List.getD, hj]
    exact ⟨g, rfl, hat 0 (by decide), hat 1 (by decide), hat 2 (by decide), hat 3 (by decide)⟩
theorem oneI (W : World) (v : Value) (t : TypeId) : ∀ j, j < 1 * 1 → ∃ b off, (some ⟨W.heap.size, 0, none⟩ : Option Addr) = some ⟨b, off, none⟩ ∧ (W.alloc (.cells #[v] t)).cell? ⟨b, off + j, none⟩ = [v][j]? := fun j hj => by
  obtain rfl : j = 0 := by omega
  exact ⟨W.heap.size, 0, rfl, by rw [World.cell?_alloc_mark]; rfl⟩
theorem take_getD {l : List SlotV} {k : Nat} (h : k < l.length) : l.take (k + 1) = l.take k ++ [l.getD k none_Slot] := by
  rw [List.take_succ_eq_append_getElem h, List.getD_eq_getElem?_getD, List.getElem?_eq_getElem h]
  rfl
theorem getD_in {l : List SlotV} {k : Nat} (h : k < l.length) : l.getD k none_Slot ∈ l := by
  rw [List.getD_eq_getElem?_getD, List.getElem?_eq_getElem h]
  exact List.getElem_mem h
theorem nodup_take {l : List SlotV} (hl : l.Nodup) {k : Nat} (h : k < l.length) : l.getD k none_Slot ∉ l.take k := by
  rw [← List.take_append_drop (k + 1) l, take_getD h] at hl
  have h2 := (List.nodup_append.1 hl).1
  intro h3
  exact (List.nodup_append.1 h2).2.2 _ h3 _ (List.mem_singleton_self _) rfl
end Go.Proofs.YtmhgejljjjmejaaDoor
namespace Go.Proofs.YtmhgejljjjmejaaDoor
open Go.RowKit

/-- What SlotsAt answers, of a list of slots. -/
def atS (l : List SlotV) (c k : Int) : List Int := ((List.range l.length).filter fun i => hasI (cellsS c (l.getD i none_Slot)) k).map fun (i : Nat) => (i : Int)
def atSn (l : List SlotV) (c k : Int) (n : Nat) : List Int := ((List.range n).filter fun i => hasI (cellsS c (l.getD i none_Slot)) k).map fun (i : Nat) => (i : Int)
theorem atSn_next (l : List SlotV) (c k : Int) (n : Nat) : atSn l c k (n + 1) = atSn l c k n ++ (if hasI (cellsS c (l.getD n none_Slot)) k = true then [(n : Int)] else []) := by
  unfold atSn
  rw [List.range_succ, List.filter_append, List.map_append]
  congr 1
  by_cases h : hasI (cellsS c (l.getD n none_Slot)) k = true
  · rw [if_pos h, List.filter_cons_of_pos (p := fun i => hasI (cellsS c (l.getD i none_Slot)) k) h]; rfl
  · rw [if_neg h, List.filter_cons_of_neg (p := fun i => hasI (cellsS c (l.getD i none_Slot)) k) h]; rfl
theorem atSn_length (l : List SlotV) (c k : Int) (n : Nat) : (atSn l c k n).length ≤ n := by
  unfold atSn
  rw [List.length_map]
  refine Nat.le_trans (List.length_filter_le _ _) ?_
  rw [List.length_range]
  exact Nat.le_refl _
theorem clG_in {g : Int × Int × ByteArray} {x : SlotV} (h : x ∈ slG g) : clG g x = cellsS g.2.1 x := if_pos h
theorem cellsS_length (c : Int) (x : SlotV) : (cellsS c x).length = x.2.2.2.toNat := by
  unfold cellsS
  rw [List.length_map, List.length_range]
theorem clG_length (g : Int × Int × ByteArray) (x : SlotV) : (clG g x).length ≤ 6 := by
  unfold clG
  split
  · rename_i h
    obtain ⟨-, -, -, h1, -⟩ := slG_small h
    rw [cellsS_length]
    omega
  · exact Nat.zero_le _
theorem reads_ints {W : World} {base : Nat} {v : Value} {l : List Int} {e : TypeId} (h : W.ownsRow base e 1 v l.length (l.map (Value.int .i64))) (hl : l.length ≤ 140737488355328) : Reads W.heap.size W v .i64 l := reads_own h rfl hl
end Go.Proofs.YtmhgejljjjmejaaDoor
