/-
  Laws on slices of integers of no program: appending whatever slice reads as a list of integers.   Contracts of the exact laws' helpers on byte slices: toByteS copies into new memory, eqByteS tells whether two slices read the same, markByteS writes the slice's own cells alone, heldByteS tells whether they still stand.   Laws on rows of a call's own, of no program: what later texts of every stage ask.
  Contracts of Mod, Max and the tests of ranges, of the model and of the program, where the divisor is in range: the remainder that is never negative.
  append of one number to an owned row, with where the new row lies: in the old block, or in a new one.
-/
import Derived.Test.YtmhgejljjjmejaaDoorProg
import Derived.WalkKit
import Derived.OwnWalk
import Derived.Laws.AppendOwn
import Derived.Laws.OwnMore
import Derived.Laws.AppendOwnNone
import Derived.Laws.Bits128
import Derived.Lib.SmallJoins
import Derived.WalkLawsBesides
import Derived.WalkSpells
import Derived.WalkSmall
import Derived.Outline
import Derived.Lib.Hide
import Derived.RegionTactic
import Derived.ChangeAlike
import Derived.OneCell
import Derived.Deep.RegionLaw
import Derived.IntWalk
namespace Go.Proofs.YtmhgejljjjmejaaDoor
open Go.RowKit

/-- A slice value's capacity. -/
def CapOk (a0 : Option Addr) (n cap : Nat) : Prop := (a0 = none → cap = 0) ∧ n ≤ cap ∧ cap ≤ 9223372036854775807
/-- The slice v reads as the integers l, of kind k; its cells lie below block B. -/
def Reads (B : Nat) (W : World) (v : Value) (k : IntKind) (l : List Int) : Prop :=
  l.length ≤ 9223372036854775807 ∧ ∃ a0 cap, v = .slice a0 l.length cap ∧ CapOk a0 l.length cap ∧ ∀ j, j < l.length → ∃ b off, a0 = some ⟨b, off, none⟩ ∧ b < B ∧ W.cell? ⟨b, off + j, none⟩ = some (.int k (l.getD j 0))
theorem Reads.later {B : Nat} {W W' : World} {v : Value} {k : IntKind} {l : List Int} (h : Reads B W v k l) (hb : Below B W W') : Reads B W' v k l := by
  obtain ⟨hl, a0, cap, e, hn, h⟩ := h
  refine ⟨hl, a0, cap, e, hn, fun j hj => ?_⟩
  obtain ⟨b, off, e1, e2, e3⟩ := h j hj
  exact ⟨b, off, e1, e2, (hb.cell (p := ⟨b, off + j, none⟩) e2).trans e3⟩
theorem Reads.wide {B B' : Nat} {W : World} {v : Value} {k : IntKind} {l : List Int} (h : Reads B W v k l) (hB : B ≤ B') : Reads B' W v k l := by
  obtain ⟨hl, a0, cap, e, hn, h⟩ := h
  refine ⟨hl, a0, cap, e, hn, fun j hj => ?_⟩
  obtain ⟨b, off, e1, e2, e3⟩ := h j hj
  exact ⟨b, off, e1, Nat.lt_of_lt_of_le e2 hB, e3⟩
theorem Reads.empty {B : Nat} {W : World} {v : Value} {k : IntKind} (h : Reads B W v k []) : ∃ a0 cap, v = .slice a0 0 cap := by
  obtain ⟨_, a0, cap, e, _, _⟩ := h
  exact ⟨a0, cap, e⟩
theorem Reads.some {B : Nat} {W : World} {v : Value} {k : IntKind} {l : List Int} (h : Reads B W v k l) (hl : l ≠ []) :
    ∃ b off cap, v = .slice (some ⟨b, off, none⟩) l.length cap ∧ b < B ∧ ∀ j, j < l.length → W.cell? ⟨b, off + j, none⟩ = some (.int k (l.getD j 0)) := by
  obtain ⟨_, a0, cap, e, _, h⟩ := h
  obtain ⟨b, off, rfl, e2, _⟩ := h 0 (List.length_pos_iff.2 hl)
  refine ⟨b, off, cap, e, e2, fun j hj => ?_⟩
  obtain ⟨b', off', e1, _, e3⟩ := h j hj
  cases e1
  exact e3

theorem grown_refl (w : World) (r : Option Nat) : w.grownBy w r := ⟨rfl, rfl, rfl, Nat.le_refl _, fun _ _ _ => rfl⟩
theorem grown_trans {a b d : World} {r : Option Nat} (h : a.grownBy b r) (k : b.grownBy d r) : a.grownBy d r :=
  ⟨k.os.trans h.os, k.tape.trans h.tape, k.output.trans h.output, Nat.le_trans h.size k.size, fun j hj hn => (k.block j (Nat.lt_of_lt_of_le hj h.size) hn).trans (h.block j hj hn)⟩

theorem btrans {a b d : World} (h : Below a.heap.size a b) (k : Below b.heap.size b d) : Below a.heap.size a d := h.trans (Joins.below_le k h.size)
theorem Reads.now {W W' : World} {v : Value} {k : IntKind} {l : List Int} (h : Reads W.heap.size W v k l) (hb : Below W.heap.size W W') : Reads W'.heap.size W' v k l := (h.later hb).wide hb.size
/-- An owned row of integers reads as its list. -/
theorem reads_own {W : World} {base n : Nat} {e : TypeId} {v : Value} {kd : IntKind} {l : List Int} (h : W.ownsRow base e 1 v n (l.map (Value.int kd))) (hn : n = l.length) (hl : l.length ≤ 140737488355328) : Reads W.heap.size W v kd l := by
  subst hn
  refine ⟨by omega, ?_⟩
  have h' := h
  rcases h.2 with ⟨rfl, h0⟩ | ⟨g, cap, cur, rfl, hb, hg, hnc, hcm, _⟩
  · have hl0 : l = [] := by simpa using h0
    subst hl0
    exact ⟨none, 0, rfl, ⟨fun _ => rfl, by simp, by decide⟩, fun j hj => by simp at hj⟩
  · refine ⟨_, cap, rfl, ⟨(fun e => by cases e), hnc, by unfold maxLen at hcm; omega⟩, fun j hj => ⟨g, 0, rfl, (Array.getElem?_eq_some_iff.1 hg).1, ?_⟩⟩
    rw [Nat.zero_add, h'.cellAt j (by omega)]
    simp [List.getD, hj]
/-- An owned row stands on where older blocks are kept. -/
theorem own_later {W W' : World} {base n : Nat} {e : TypeId} {v : Value} {xs : List Value} (h : W.ownsRow base e 1 v n xs) (hb : Below W.heap.size W W') : W'.ownsRow base e 1 v n xs := by
  refine ⟨h.1, ?_⟩
  rcases h.2 with hn | ⟨g, cap, cur, rfl, hbg, hg, rest⟩
  · exact .inl hn
  · exact .inr ⟨g, cap, cur, rfl, hbg, (hb.block g (Array.getElem?_eq_some_iff.1 hg).1).trans hg, rest⟩
/-- Two slices whose rows lie apart. -/
def Apart (v u : Value) : Prop := v.ownBlock = none ∨ v.ownBlock ≠ u.ownBlock
theorem apart_of {W W' : World} {base base' n n' : Nat} {e e' : TypeId} {v u : Value} {xs ys : List Value} (h : W.ownsRow base e 1 v n xs) (h' : W'.ownsRow base' e' 1 u n' ys) (hb : W.heap.size ≤ base') : Apart v u ∧ Apart u v := by
  constructor
  · cases hv : v.ownBlock with
    | none => exact .inl hv
    | some k =>
      right
      rw [hv]
      intro e
      have h1 := (h.lt k hv).2
      have h2 := (h'.lt k e.symm).1
      omega
  · cases hu : u.ownBlock with
    | none => exact .inl hu
    | some k =>
      right
      rw [hu]
      intro e
      have h1 := (h'.lt k hu).1
      have h2 := (h.lt k e.symm).2
      omega
/-- Where an owned row lies. -/
theorem own_block {W : World} {base n : Nat} {e : TypeId} {v : Value} {xs : List Value} (h : W.ownsRow base e 1 v n xs) : ∀ k, v.ownBlock = some k → base ≤ k ∧ k < W.heap.size := h.lt

theorem append_reads {P : Program} (w : World) {ops : Array Oper} {rest : List Oper} {o : Oper} {a : Act} {Q : Exit → Act → World → Prop} (hgd : o.guard = none) (s x : Operand) (t : TypeId)
    (ho : o.op = .call { callee := .builtin .append, args := #[s, x], argTypes := #[t, t] })
    (base : Nat) (e : TypeId) (i : TypeInfo) (z : Value) (bytes : Nat) (ht : P.underlying t = some (.slice e)) (hi : P.info? e = some i) (hz : i.zero = some z)
    (hsize : i.size = 1) (hby : i.bytes = bytes) (hzs : z.cells.size = 1)
    (v : Value) (n : Nat) (xs : List Value) (hs : a.eval s = v) (hown : w.ownsRow base e 1 v n xs)
    (a0 : Option Addr) (m c : Nat) (kd : IntKind) (l : List Int) (hx : a.eval x = .slice a0 m c) (hm : m = l.length) (hnil : a0 = none → c = 0)
    (hsrc : ∀ j, j < l.length → ∃ b off, a0 = some ⟨b, off, none⟩ ∧ w.cell? ⟨b, off + j, none⟩ = some (.int kd (l.getD j 0)))
    (h63 : n + m ≤ 140737488355328) (hbytes : (n + m) * bytes ≤ 140737488355328) (hbase : base ≤ w.heap.size)
    (h : ∀ v' w', w'.ownsRow base e 1 v' (n + m) (xs ++ l.map (Value.int kd)) → w.grownBy w' v.ownBlock → wpList P ops Q rest (a.put o.dst v') w') : wpList P ops Q (o :: rest) a w := by
  cases a0 with
  | none =>
    have hl : l = [] := by
      rcases Nat.eq_zero_or_pos l.length with h0 | h0
      · exact List.length_eq_zero_iff.1 h0
      · obtain ⟨b, off, e1, _⟩ := hsrc 0 h0
        cases e1
    subst hl
    obtain rfl := hnil rfl
    subst hm
    exact wpList_append_own_none hgd s x t ho base e i 1 ht hi v n xs hs hown hx (h v w (by simpa using hown) (grown_refl w _))
  | some ad =>
    refine wpList_append_own w hgd s x t ho base e i z 1 bytes ht hi hz hsize hby hzs (by decide) v n xs hs hown ad m c (l.map (Value.int kd)) hx (by simp [hm]) ?_ ?_ (by unfold maxLen; omega) hbytes hbase (fun v' w' h2 h3 _ => h v' w' h2 h3)
    · intro j u hu
      have hj : j < l.length := by
        have := (List.getElem?_eq_some_iff.1 hu).1
        simpa using this
      obtain ⟨b, off, e1, e2⟩ := hsrc j hj
      cases e1
      have e3 : (⟨b, off, none⟩ : Addr).add j = ⟨b, off + j, none⟩ := by unfold Addr.add; split <;> simp_all
      rw [e3, e2]
      simpa [List.getD, hj] using hu
    · intro u hu
      obtain ⟨y, _, rfl⟩ := List.mem_map.1 hu
      rfl
end Go.Proofs.YtmhgejljjjmejaaDoor
namespace Go.Proofs.YtmhgejljjjmejaaDoor
open Go.RowKit

theorem infoU8 : (Tryd.prog.info? 5).map (fun i => (i.zero, i.size, i.bytes)) = some (some (.int .u8 0), 1, 1) := by kernel_rfl

/-- What has been copied after k rounds. -/
def copied (kd : IntKind) (l : List Int) (k : Nat) : List Value := (l.take k).map (Value.int kd) ++ (List.replicate (l.length - k) 0).map (Value.int kd)
theorem copied_length (kd : IntKind) (l : List Int) (k : Nat) (h : k ≤ l.length) : (copied kd l k).length = l.length := by
  unfold copied; simp; omega
theorem copied_set (kd : IntKind) (l : List Int) (k : Nat) (h : k < l.length) : (copied kd l k).set k (.int kd (l.getD k 0)) = copied kd l (k + 1) := by
  unfold copied
  have e : l.length - k = (l.length - (k + 1)) + 1 := by omega
  rw [List.set_append_right _ _ (by simp; omega), e, List.replicate_succ, List.map_cons]
  have e2 : k - ((l.take k).map (Value.int kd)).length = 0 := by simp; omega
  rw [e2, List.set_cons_zero, List.take_succ_eq_append_getElem h, List.map_append]
  simp [List.getD, h]
theorem copied_full (kd : IntKind) (l : List Int) : copied kd l l.length = l.map (Value.int kd) := by
  unfold copied; simp
theorem copied_zero (kd : IntKind) (l : List Int) : (madeCells #[Value.int kd 0] (l.length * 1)).toList = copied kd l 0 := by
  refine List.ext_getElem (by simp [madeCells, copied]) fun i h1 h2 => ?_
  simp [madeCells, copied, Nat.mod_one]
theorem copied_at (kd : IntKind) (l : List Int) (k : Nat) (h : k < l.length) : (copied kd l k)[k]? = some (.int kd 0) := by
  unfold copied
  rw [List.getElem?_append_right (by simp; omega)]
  have e2 : k - ((l.take k).map (Value.int kd)).length = 0 := by simp; omega
  rw [e2]
  have e : l.length - k = (l.length - (k + 1)) + 1 := by omega
  rw [e, List.replicate_succ]
  simp

/-- The numbers that markByteS writes. -/
def marks (k0 : Int) (n : Nat) : List Int := (List.range n).map fun (i : Nat) => (k0 + (i : Int)) % 256
theorem marks_length (k0 : Int) (n : Nat) : (marks k0 n).length = n := by simp [marks]
theorem marks_getD (k0 : Int) (n j : Nat) (h : j < n) : (marks k0 n).getD j 0 = (k0 + (j : Int)) % 256 := by simp [marks, List.getD, h]
/-- What has been marked after j rounds. -/
def marked (k0 : Int) (xs : List Value) (j : Nat) : List Value := (marks k0 j).map (Value.int .u8) ++ xs.drop j
theorem marked_set (k0 : Int) (xs : List Value) (j : Nat) (h : j < xs.length) : (marked k0 xs j).set j (.int .u8 ((k0 + (j : Int)) % 256)) = marked k0 xs (j + 1) := by
  unfold marked
  rw [List.set_append_right _ _ (by simp [marks_length])]
  have e2 : j - ((marks k0 j).map (Value.int .u8)).length = 0 := by simp [marks_length]
  rw [e2, List.drop_eq_getElem_cons h, List.set_cons_zero]
  simp [marks, List.range_succ]
theorem marked_at (k0 : Int) (xs : List Value) (j : Nat) : (marked k0 xs j)[j]? = xs[j]? := by
  unfold marked
  rw [List.getElem?_append_right (by simp [marks_length])]
  simp [marks_length, List.getElem?_drop]
theorem marked_full (k0 : Int) (xs : List Value) : marked k0 xs xs.length = (marks k0 xs.length).map (Value.int .u8) := by
  unfold marked; simp

end Go.Proofs.YtmhgejljjjmejaaDoor
namespace Go.Proofs.YtmhgejljjjmejaaDoor
open Go.RowKit

theorem own_empty (w : World) (e : TypeId) : (w.alloc (.cells #[] e)).ownsRow w.heap.size e 1 (.slice (some ⟨w.heap.size, 0, none⟩) 0 0) 0 [] :=
  World.ownsRow_made w #[] 0 (Nat.le_refl _) (by decide) (by simp)
theorem own_nil (w : World) (base : Nat) (e : TypeId) : w.ownsRow base e 1 (.slice none 0 0) 0 [] := ⟨by simp, .inl ⟨rfl, rfl⟩⟩
theorem own_one (w : World) (e : TypeId) (v : Value) : (w.alloc (.cells #[v] e)).ownsRow w.heap.size e 1 (.slice (some ⟨w.heap.size, 0, none⟩) 1 1) 1 [v] :=
  ⟨by simp, .inr ⟨w.heap.size, 1, #[v], rfl, Nat.le_refl _, heap_alloc_new w _, Nat.le_refl _, by decide, by simp, by simp⟩⟩
theorem alloc_src {w : World} {a0 : Option Addr} {kd : IntKind} {l : List Int} {B : Nat} (h : ∀ j, j < l.length → ∃ b off, a0 = some ⟨b, off, none⟩ ∧ b < B ∧ w.cell? ⟨b, off + j, none⟩ = some (.int kd (l.getD j 0))) (o : Obj) :
    ∀ j, j < l.length → ∃ b off, a0 = some ⟨b, off, none⟩ ∧ (w.alloc o).cell? ⟨b, off + j, none⟩ = some (.int kd (l.getD j 0)) := fun j hj => by
  obtain ⟨b, off, e1, e2, e3⟩ := h j hj
  exact ⟨b, off, e1, ((World.grownBy_alloc w o none).cell e3 (by simp))⟩
theorem now_src {B : Nat} {W : World} {a0 : Option Addr} {kd : IntKind} {l : List Int} (h : ∀ j, j < l.length → ∃ b off, a0 = some ⟨b, off, none⟩ ∧ b < B ∧ W.cell? ⟨b, off + j, none⟩ = some (.int kd (l.getD j 0))) :
    ∀ j, j < l.length → ∃ b off, a0 = some ⟨b, off, none⟩ ∧ W.cell? ⟨b, off + j, none⟩ = some (.int kd (l.getD j 0)) := fun j hj => by
  obtain ⟨b, off, e1, _, e3⟩ := h j hj
  exact ⟨b, off, e1, e3⟩
theorem one_src (w : World) (x : Int) (kd : IntKind) (t : TypeId) : ∀ j, j < [x].length → ∃ b off, some (⟨w.heap.size, 0, none⟩ : Addr) = some ⟨b, off, none⟩ ∧ (w.alloc (.cells #[.int kd x] t)).cell? ⟨b, off + j, none⟩ = some (.int kd ([x].getD j 0)) := fun j hj => by
  obtain rfl : j = 0 := by simpa using hj
  exact ⟨_, _, rfl, by simp⟩
theorem below_own {B base : Nat} {a w w' : World} {e : TypeId} {v : Value} {n : Nat} {xs : List Value} (h : Below B a w) (hg : w.grownBy w' v.ownBlock) (ho : w.ownsRow base e 1 v n xs) (hB : B ≤ base) (hw : B ≤ w.heap.size) : Below B a w' :=
  h.grown hg hw (fun k hk => Nat.le_trans hB (ho.lt k hk).1)
theorem own_wide {W : World} {base base' n : Nat} {e : TypeId} {v : Value} {xs : List Value} (h : W.ownsRow base' e 1 v n xs) (hb : base ≤ base') : W.ownsRow base e 1 v n xs := by
  refine ⟨h.1, ?_⟩
  rcases h.2 with hn | ⟨g, cap, cur, rfl, hbg, rest⟩
  · exact .inl hn
  · exact .inr ⟨g, cap, cur, rfl, Nat.le_trans hb hbg, rest⟩
theorem own_form {w : World} {base n : Nat} {e : TypeId} {v : Value} {xs : List Value} (h : w.ownsRow base e 1 v n xs) : ∃ a cap, v = .slice a n cap := by
  rcases h.2 with ⟨rfl, rfl⟩ | ⟨g, cap, cur, rfl, _⟩
  · exact ⟨_, _, rfl⟩
  · exact ⟨_, _, rfl⟩
theorem below_grown {B g : Nat} {a w w' : World} (h : Below B a w) (hg : w.grownBy w' (some g)) (hB : B ≤ w.heap.size) (hBg : B ≤ g) : Below B a w' :=
  h.grown hg hB (fun k hk => by cases hk; exact hBg)
theorem grown_drewN (w : World) (n : Nat) (r : Option Nat) : w.grownBy (w.drewN n) r := ⟨rfl, rfl, rfl, Nat.le_refl _, fun _ _ _ => rfl⟩
theorem below_drewN {B : Nat} {a w : World} (h : Below B a w) (n : Nat) : Below B a (w.drewN n) := ⟨h.os, h.tape, h.output, h.size, h.block⟩
theorem one_cell (w : World) (x : Int) (kd : IntKind) (t : TypeId) : ∀ j, j < [x].length → (w.alloc (.cells #[.int kd x] t)).cell? ⟨w.heap.size, 0 + j, none⟩ = some (.int kd ([x].getD j 0)) := fun j hj => by
  obtain rfl : j = 0 := by simpa using hj
  simp
theorem le_alloc {n : Nat} {w : World} (h : n ≤ w.heap.size) (o : Obj) : n ≤ (w.alloc o).heap.size := by simp; omega
/-- append onto a row of the call's own, at a step of a region that draws: whatever slice of integers at an address. -/
theorem step_append_reads {P : Program} {ops : Array Oper} {o : Oper} {a : Act} {w : World} {K : Act → World → Prop} {Q : Exit → Act → World → Prop} {E : Prop} (hgd : o.guard = none) (s x : Operand) (t : TypeId)
    (ho : o.op = .call { callee := .builtin .append, args := #[s, x], argTypes := #[t, t] })
    (base : Nat) (e : TypeId) (i : TypeInfo) (z : Value) (bytes : Nat) (ht : P.underlying t = some (.slice e)) (hi : P.info? e = some i) (hz : i.zero = some z)
    (hsize : i.size = 1) (hby : i.bytes = bytes) (hzs : z.cells.size = 1)
    (v : Value) (n : Nat) (xs : List Value) (hs : a.eval s = v) (hown : w.ownsRow base e 1 v n xs)
    (b off m c : Nat) (kd : IntKind) (l : List Int) (hx : a.eval x = .slice (some ⟨b, off, none⟩) m c) (hm : m = l.length)
    (hsrc : ∀ j, j < l.length → w.cell? ⟨b, off + j, none⟩ = some (.int kd (l.getD j 0)))
    (h63 : n + m ≤ 140737488355328) (hbytes : (n + m) * bytes ≤ 140737488355328) (hbase : base ≤ w.heap.size)
    (h : ∀ v' w', w'.ownsRow base e 1 v' (n + m) (xs ++ l.map (Value.int kd)) → w.grownBy w' v.ownBlock → K (a.put o.dst v') w') :
    if Region.wanted o (yielded ops a.tmps) = true then Oper.wp P o a w K Q else E := by
  have hw : Region.wanted o (yielded ops a.tmps) = true := by simp [Region.wanted, hgd]
  rw [if_pos hw]
  refine wp_append_own w s x t ho base e i z 1 bytes ht hi hz hsize hby hzs (by decide) v n xs hs hown ⟨b, off, none⟩ m c (l.map (Value.int kd)) hx (by simp [hm]) ?_ ?_ (by unfold maxLen; omega) hbytes hbase (fun v' w' h2 h3 _ => h v' w' h2 h3)
  · intro j u hu
    have hj : j < l.length := by
      have := (List.getElem?_eq_some_iff.1 hu).1
      simpa using this
    have e3 : (⟨b, off, none⟩ : Addr).add j = ⟨b, off + j, none⟩ := by unfold Addr.add; split <;> simp_all
    rw [e3, hsrc j hj]
    simpa [List.getD, hj] using hu
  · intro u hu
    obtain ⟨y, _, rfl⟩ := List.mem_map.1 hu
    rfl
/-- append onto a row of the call's own, at an operation whose guard holds. -/
theorem append_reads_g {P : Program} (w : World) {ops : Array Oper} {rest : List Oper} {o : Oper} {a : Act} {Q : Exit → Act → World → Prop} (hw : Region.wanted o (yielded ops a.tmps) = true) (s x : Operand) (t : TypeId)
    (ho : o.op = .call { callee := .builtin .append, args := #[s, x], argTypes := #[t, t] })
    (base : Nat) (e : TypeId) (i : TypeInfo) (z : Value) (bytes : Nat) (ht : P.underlying t = some (.slice e)) (hi : P.info? e = some i) (hz : i.zero = some z)
    (hsize : i.size = 1) (hby : i.bytes = bytes) (hzs : z.cells.size = 1)
    (v : Value) (n : Nat) (xs : List Value) (hs : a.eval s = v) (hown : w.ownsRow base e 1 v n xs)
    (a0 : Option Addr) (m c : Nat) (kd : IntKind) (l : List Int) (hx : a.eval x = .slice a0 m c) (hm : m = l.length) (hnil : a0 = none → c = 0)
    (hsrc : ∀ j, j < l.length → ∃ b off, a0 = some ⟨b, off, none⟩ ∧ w.cell? ⟨b, off + j, none⟩ = some (.int kd (l.getD j 0)))
    (h63 : n + m ≤ 140737488355328) (hbytes : (n + m) * bytes ≤ 140737488355328) (hbase : base ≤ w.heap.size)
    (h : ∀ v' w', w'.ownsRow base e 1 v' (n + m) (xs ++ l.map (Value.int kd)) → w.grownBy w' v.ownBlock → wpList P ops Q rest (a.put o.dst v') w') : wpList P ops Q (o :: rest) a w := by
  let o' : Oper := { o with guard := none }
  have h2 : wpList P ops Q (o' :: rest) a w := append_reads w (o := o') rfl s x t ho base e i z bytes ht hi hz hsize hby hzs v n xs hs hown a0 m c kd l hx hm hnil hsrc h63 hbytes hbase h
  unfold wpList at h2 ⊢
  rw [if_pos (show Region.wanted o' (yielded ops a.tmps) = true by simp [Region.wanted, o'])] at h2
  rw [if_pos hw]
  exact h2
end Go.Proofs.YtmhgejljjjmejaaDoor
namespace Go.Proofs.YtmhgejljjjmejaaDoor
open Go.RowKit

theorem inr_yes (n lo hi : Int) (h1 : lo ≤ n) (h2 : n ≤ hi) (w : World) :
    Calls Tryd.prog 31 #[.int .i64 n, .int .i64 lo, .int .i64 hi] w fun e w' => e = .returned (.bool true) ∧ w = w' := by
  go_enter Tryd.func31, Tryd.ntmps31
  go_wp2
  go_ret
  exact ⟨rfl, rfl⟩
theorem inr_no (n lo hi : Int) (h : ¬ (lo ≤ n ∧ n ≤ hi)) (w : World) :
    Calls Tryd.prog 31 #[.int .i64 n, .int .i64 lo, .int .i64 hi] w fun e w' => e = .returned (.bool false) ∧ w = w' := by
  by_cases h1 : lo ≤ n
  · have hd : decide (n ≤ hi) = false := decide_eq_false (by omega)
    clear h
    go_enter Tryd.func31, Tryd.ntmps31
    go_wp2
    go_ret
    exact ⟨rfl, rfl⟩
  · have hd : decide (lo ≤ n) = false := decide_eq_false h1
    clear h
    go_enter Tryd.func31, Tryd.ntmps31
    go_wp2
    go_ret
    exact ⟨rfl, rfl⟩
/-- impl.InRange at every three ints. -/
theorem inr_any (n lo hi : Int) (w : World) :
    Calls Tryd.prog 31 #[.int .i64 n, .int .i64 lo, .int .i64 hi] w fun e w' => e = .returned (.bool (decide (lo ≤ n ∧ n ≤ hi))) ∧ w = w' := by
  by_cases h : lo ≤ n ∧ n ≤ hi
  · rw [decide_eq_true h]; exact inr_yes n lo hi h.1 h.2 w
  · rw [decide_eq_false h]; exact inr_no n lo hi h w
theorem lin_yes (n lo hi : Int) (h1 : lo ≤ n) (h2 : n ≤ hi) (w : World) :
    Calls Tryd.prog 19 #[.int .i64 n, .int .i64 lo, .int .i64 hi] w fun e w' => e = .returned (.bool true) ∧ w = w' := by
  go_enter Tryd.func19, Tryd.ntmps19
  go_wp2
  go_ret
  exact ⟨rfl, rfl⟩
theorem lin_no (n lo hi : Int) (h : ¬ (lo ≤ n ∧ n ≤ hi)) (w : World) :
    Calls Tryd.prog 19 #[.int .i64 n, .int .i64 lo, .int .i64 hi] w fun e w' => e = .returned (.bool false) ∧ w = w' := by
  by_cases h1 : lo ≤ n
  · have hd : decide (n ≤ hi) = false := decide_eq_false (by omega)
    clear h
    go_enter Tryd.func19, Tryd.ntmps19
    go_wp2
    go_ret
    exact ⟨rfl, rfl⟩
  · have hd : decide (lo ≤ n) = false := decide_eq_false h1
    clear h
    go_enter Tryd.func19, Tryd.ntmps19
    go_wp2
    go_ret
    exact ⟨rfl, rfl⟩
/-- spec.l1In at every three ints. -/
theorem lin_any (n lo hi : Int) (w : World) :
    Calls Tryd.prog 19 #[.int .i64 n, .int .i64 lo, .int .i64 hi] w fun e w' => e = .returned (.bool (decide (lo ≤ n ∧ n ≤ hi))) ∧ w = w' := by
  by_cases h : lo ≤ n ∧ n ≤ hi
  · rw [decide_eq_true h]; exact lin_yes n lo hi h.1 h.2 w
  · rw [decide_eq_false h]; exact lin_no n lo hi h w

theorem tmod_emod (n m : Int) : n.tmod m % m = n % m := by
  rw [Int.tmod_def]
  exact Int.sub_mul_emod_self_left ..
theorem tmod_neg_bounds {n m : Int} (h : n < 0) (hm : 0 < m) : -m < n.tmod m ∧ n.tmod m ≤ 0 :=
  ⟨by have := Int.lt_tmod_of_pos n hm; omega, by have := Int.tmod_nonneg m (show 0 ≤ -n by omega); rw [Int.neg_tmod] at this; omega⟩
end Go.Proofs.YtmhgejljjjmejaaDoor
namespace Go.Proofs.YtmhgejljjjmejaaDoor
open Go.RowKit

theorem append_block {P : Program} (w : World) (base : Nat) (t ty e : TypeId) (i : TypeInfo) (z : Value) (bytes : Nat) (ht : P.underlying t = some (.slice e)) (hi : P.info? e = some i) (hz : i.zero = some z)
    (hsize : i.size = 1) (hby : i.bytes = bytes) (hzs : z.cells.size = 1)
    (v : Value) (n : Nat) (xs : List Value) (hown : w.ownsRow base e 1 v n xs)
    (a : Addr) (m c : Nat) (news : List Value) (hl : news.length = m * 1) (hm : 0 < m) (hnews : ∀ j u, news[j]? = some u → w.cell? (a.add j) = some u) (h1 : ∀ u ∈ news, u.oneCell' = true)
    (h63 : n + m ≤ 140737488355328) (hbytes : (n + m) * bytes ≤ 140737488355328) (hbase : base ≤ w.heap.size) :
    ∃ v' w', (Builtin.append_ #[t, t] ty #[v, .slice (some a) m c]).run P w = .ok v' w' ∧ w'.ownsRow base e 1 v' (n + m) (xs ++ news) ∧ w.grownBy w' v.ownBlock ∧
      (v'.ownBlock = v.ownBlock ∨ v'.ownBlock = some w.heap.size) := by
  obtain ⟨v', w', hr, h2, h3, -⟩ := run_append_own (P := P) w base t ty e i z 1 bytes ht hi hz hsize hby hzs (by decide) v n xs hown a m c news hl hnews h1 (by unfold maxLen; omega) hbytes hbase
  refine ⟨v', w', hr, h2, h3, ?_⟩
  subst hby
  rcases hown.2 with ⟨rfl, rfl⟩ | ⟨g, cap, cur, rfl, -, hg, -, -, hcs, -⟩
  · rw [run_append_nil (P := P) w t ty e i z ht hi hz a m c news (by rw [hl, hsize]) hnews hm (by omega) (by have hb := hbytes; simp only [Nat.zero_add] at hb; omega)] at hr
    cases hr
    exact Or.inr rfl
  · by_cases hroom : n + m ≤ cap
    · rw [run_append_room (P := P) w t ty e i ht hi g n cap cur hg a m c news (by rw [hl, hsize]) hnews h1 hroom (by rw [hl, hcs, hsize]; omega)] at hr
      cases hr
      exact Or.inl rfl
    · rw [run_append_grow (P := P) w t ty e i z ht hi hz ⟨g, 0, none⟩ n cap xs (by rw [hown.1, hsize]) (hown.cells (g := g) rfl) a m c news (by rw [hl, hsize]) hnews (by omega) (by omega) (growslice_fits (by omega) hbytes)] at hr
      cases hr
      exact Or.inr rfl
theorem append_one {P : Program} (w : World) {ops : Array Oper} {rest : List Oper} {o : Oper} {a : Act} {Q : Exit → Act → World → Prop} (hgd : o.guard = none) (s x : Operand) (t : TypeId)
    (ho : o.op = .call { callee := .builtin .append, args := #[s, x], argTypes := #[t, t] })
    (base : Nat) (e : TypeId) (i : TypeInfo) (z : Value) (bytes : Nat) (ht : P.underlying t = some (.slice e)) (hi : P.info? e = some i) (hz : i.zero = some z)
    (hsize : i.size = 1) (hby : i.bytes = bytes) (hzs : z.cells.size = 1)
    (v : Value) (n : Nat) (xs : List Value) (hs : a.eval s = v) (hown : w.ownsRow base e 1 v n xs)
    (ad : Addr) (c : Nat) (kd : IntKind) (y : Int) (hx : a.eval x = .slice (some ad) 1 c)
    (hsrc : w.cell? ad = some (.int kd y))
    (h63 : n + 1 ≤ 140737488355328) (hbytes : (n + 1) * bytes ≤ 140737488355328) (hbase : base ≤ w.heap.size)
    (h : ∀ v' w', w'.ownsRow base e 1 v' (n + 1) (xs ++ [Value.int kd y]) → w.grownBy w' v.ownBlock → (v'.ownBlock = v.ownBlock ∨ v'.ownBlock = some w.heap.size) → wpList P ops Q rest (a.put o.dst v') w') : wpList P ops Q (o :: rest) a w := by
  refine wpList_plain hgd fun K hK => ?_
  obtain ⟨v', w', hr, h2, h3, h4⟩ := append_block (P := P) w base t o.type e i z bytes ht hi hz hsize hby hzs v n xs hown ad 1 c [Value.int kd y] rfl (by decide)
    (fun j u hu => by
      have hj : j = 0 := by have := (List.getElem?_eq_some_iff.1 hu).1; simpa using this
      subst hj
      have e3 : ad.add 0 = ad := by unfold Addr.add; split <;> first | contradiction | simp_all
      rw [e3, hsrc]
      simpa using hu)
    (fun u hu => by rw [List.mem_singleton.1 hu]; rfl) h63 hbytes hbase
  unfold Oper.wp execOp
  simp only [ho, resolve, invoke, builtin, Sem.run_bind, Sem.run_pure, Result.andThen_ok, List.map_toArray, List.map_cons, List.map_nil, hs, hx, hr]
  exact hK _ _ (h v' w' h2 h3 h4)
end Go.Proofs.YtmhgejljjjmejaaDoor
