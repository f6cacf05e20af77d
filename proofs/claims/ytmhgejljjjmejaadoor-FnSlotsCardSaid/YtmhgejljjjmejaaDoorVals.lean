/-
  Laws on slices of any elements, of no program: a row of cells that reads as a list of values, s cells to an element.
  Contracts of the exact laws' helpers on slices of strings: markText, toStringS, eqStringS, szStringS, markStringS, heldStringS.
  Rows of elements of s cells each, of no program.
  append onto a row of the call's own at a step of a region that draws: elements of any number of cells.
-/
import Derived.Test.YtmhgejljjjmejaaDoorKit
import Derived.Test.YtmhgejljjjmejaaDoorProg
import Derived.WalkKit
import Derived.WalkLawsBesides
import Derived.WalkSpells
import Derived.WalkSmall
import Derived.OwnWalk
import Derived.Outline
import Derived.Lib.Hide
import Derived.Lib.SmallJoins
import Derived.Laws.AppendOwn
import Derived.Laws.OwnMore
import Derived.Laws.BytesArg
import Derived.Deep.RegionHeld3
import Derived.RegionTactic
import Derived.ChangeAlike
namespace Go.Proofs.YtmhgejljjjmejaaDoor
open Go.RowKit

/-- The slice v reads as n elements of s cells each, the values xs; its cells lie below block B. -/
def ReadsV (B : Nat) (W : World) (v : Value) (s n : Nat) (xs : List Value) : Prop :=
  n ≤ 9223372036854775807 ∧ xs.length = n * s ∧ ∃ a0 cap, v = .slice a0 n cap ∧ CapOk a0 n cap ∧ ∀ j, j < n * s → ∃ b off, a0 = some ⟨b, off, none⟩ ∧ b < B ∧ W.cell? ⟨b, off + j, none⟩ = xs[j]?
theorem ReadsV.later {B s n : Nat} {W W' : World} {v : Value} {xs : List Value} (h : ReadsV B W v s n xs) (hb : Below B W W') : ReadsV B W' v s n xs := by
  obtain ⟨hl, hx, a0, cap, e, hn, h⟩ := h
  refine ⟨hl, hx, a0, cap, e, hn, fun j hj => ?_⟩
  obtain ⟨b, off, e1, e2, e3⟩ := h j hj
  exact ⟨b, off, e1, e2, (hb.cell (p := ⟨b, off + j, none⟩) e2).trans e3⟩
theorem ReadsV.wide {B B' s n : Nat} {W : World} {v : Value} {xs : List Value} (h : ReadsV B W v s n xs) (hB : B ≤ B') : ReadsV B' W v s n xs := by
  obtain ⟨hl, hx, a0, cap, e, hn, h⟩ := h
  refine ⟨hl, hx, a0, cap, e, hn, fun j hj => ?_⟩
  obtain ⟨b, off, e1, e2, e3⟩ := h j hj
  exact ⟨b, off, e1, Nat.lt_of_lt_of_le e2 hB, e3⟩
theorem ReadsV.now {W W' : World} {v : Value} {s n : Nat} {xs : List Value} (h : ReadsV W.heap.size W v s n xs) (hb : Below W.heap.size W W') : ReadsV W'.heap.size W' v s n xs := (h.later hb).wide hb.size
/-- An owned row reads as its list. -/
theorem readsV_own {W : World} {base s n : Nat} {e : TypeId} {v : Value} {xs : List Value} (h : W.ownsRow base e s v n xs) (hn : n ≤ 140737488355328) : ReadsV W.heap.size W v s n xs := by
  refine ⟨by omega, h.1, ?_⟩
  have h' := h
  rcases h.2 with ⟨rfl, rfl⟩ | ⟨g, cap, cur, rfl, hb, hg, hnc, hcm, _⟩
  · exact ⟨none, 0, rfl, ⟨fun _ => rfl, by simp, by decide⟩, fun j hj => by simp at hj⟩
  · refine ⟨_, cap, rfl, ⟨(fun e => by cases e), hnc, by unfold maxLen at hcm; omega⟩, fun j hj => ⟨g, 0, rfl, (Array.getElem?_eq_some_iff.1 hg).1, ?_⟩⟩
    rw [Nat.zero_add, h'.cellAt j hj]
/-- An owned row stands on where older blocks are kept. -/
theorem ownV_later {W W' : World} {base s n : Nat} {e : TypeId} {v : Value} {xs : List Value} (h : W.ownsRow base e s v n xs) (hb : Below W.heap.size W W') : W'.ownsRow base e s v n xs := by
  refine ⟨h.1, ?_⟩
  rcases h.2 with hn | ⟨g, cap, cur, rfl, hbg, hg, rest⟩
  · exact .inl hn
  · exact .inr ⟨g, cap, cur, rfl, hbg, (hb.block g (Array.getElem?_eq_some_iff.1 hg).1).trans hg, rest⟩
theorem apartV_of {W W' : World} {base base' n n' s s' : Nat} {e e' : TypeId} {v u : Value} {xs ys : List Value} (h : W.ownsRow base e s v n xs) (h' : W'.ownsRow base' e' s' u n' ys) (hb : W.heap.size ≤ base') : Apart v u ∧ Apart u v := by
  constructor
  · cases hv : v.ownBlock with
    | none => exact .inl hv
    | some k =>
      right
      rw [hv]
      intro e
      have h1 := (h.lt k hv).2
      have h2 := (h'.lt k e.symm).1
      omega
  · cases hu : u.ownBlock with
    | none => exact .inl hu
    | some k =>
      right
      rw [hu]
      intro e
      have h1 := (h'.lt k hu).1
      have h2 := (h.lt k e.symm).2
      omega
theorem ownV_slice {w : World} {base s n : Nat} {e : TypeId} {v : Value} {xs : List Value} (h : w.ownsRow base e s v n xs) : ∃ a c, v = .slice a n c := by
  rcases h.2 with ⟨rfl, rfl⟩ | ⟨g, cap, cur, rfl, _⟩
  · exact ⟨_, _, rfl⟩
  · exact ⟨_, _, rfl⟩

theorem appendV_reads {P : Program} (w : World) {ops : Array Oper} {rest : List Oper} {o : Oper} {a : Act} {Q : Exit → Act → World → Prop} (hgd : o.guard = none) (s x : Operand) (t : TypeId)
    (ho : o.op = .call { callee := .builtin .append, args := #[s, x], argTypes := #[t, t] })
    (base : Nat) (e : TypeId) (i : TypeInfo) (z : Value) (size bytes : Nat) (ht : P.underlying t = some (.slice e)) (hi : P.info? e = some i) (hz : i.zero = some z)
    (hsize : i.size = size) (hby : i.bytes = bytes) (hzs : z.cells.size = size) (hs0 : 0 < size)
    (v : Value) (n : Nat) (xs : List Value) (hs : a.eval s = v) (hown : w.ownsRow base e size v n xs)
    (a0 : Option Addr) (m c : Nat) (ys : List Value) (hx : a.eval x = .slice a0 m c) (hm : ys.length = m * size) (h1 : ∀ u ∈ ys, u.oneCell' = true) (hnil : a0 = none → c = 0)
    (hsrc : ∀ j, j < m * size → ∃ b off, a0 = some ⟨b, off, none⟩ ∧ w.cell? ⟨b, off + j, none⟩ = ys[j]?)
    (h63 : n + m ≤ 140737488355328) (hbytes : (n + m) * bytes ≤ 140737488355328) (hbase : base ≤ w.heap.size)
    (h : ∀ v' w', w'.ownsRow base e size v' (n + m) (xs ++ ys) → w.grownBy w' v.ownBlock → wpList P ops Q rest (a.put o.dst v') w') : wpList P ops Q (o :: rest) a w := by
  cases a0 with
  | none =>
    have h0 : m * size = 0 := by
      rcases Nat.eq_zero_or_pos (m * size) with h0 | h0
      · exact h0
      · obtain ⟨b, off, e1, _⟩ := hsrc 0 h0
        cases e1
    have hy : ys = [] := List.length_eq_zero_iff.1 (hm.trans h0)
    have hm0 : m = 0 := by
      rcases Nat.mul_eq_zero.1 h0 with h | h
      · exact h
      · omega
    subst hy
    subst hm0
    obtain rfl := hnil rfl
    exact wpList_append_own_none hgd s x t ho base e i size ht hi v n xs hs hown hx (h v w (by simpa using hown) (grown_refl w _))
  | some ad =>
    refine wpList_append_own w hgd s x t ho base e i z size bytes ht hi hz hsize hby hzs hs0 v n xs hs hown ad m c ys hx hm ?_ ?_ (by unfold maxLen; omega) hbytes hbase (fun v' w' h2 h3 _ => h v' w' h2 h3)
    · intro j u hu
      have hj : j < m * size := by
        have := (List.getElem?_eq_some_iff.1 hu).1
        omega
      obtain ⟨b, off, e1, e2⟩ := hsrc j hj
      cases e1
      have e3 : (⟨b, off, none⟩ : Addr).add j = ⟨b, off + j, none⟩ := by unfold Addr.add; split <;> simp_all
      rw [e3, e2]
      exact hu
    · exact h1
end Go.Proofs.YtmhgejljjjmejaaDoor
namespace Go.Proofs.YtmhgejljjjmejaaDoor
open Go.RowKit

theorem infoStr : (Tryd.prog.info? 9).map (fun i => (i.zero, i.size, i.bytes)) = some (some (.string ⟨#[]⟩), 1, 16) := by kernel_rfl

/-- The slice v reads as the strings l. -/
def ReadsS (B : Nat) (W : World) (v : Value) (l : List ByteArray) : Prop := ReadsV B W v 1 l.length (l.map Value.string)
theorem ReadsS.cells {B : Nat} {W : World} {v : Value} {l : List ByteArray} (h : ReadsS B W v l) :
    l.length ≤ 9223372036854775807 ∧ ∃ a0 cap, v = .slice a0 l.length cap ∧ CapOk a0 l.length cap ∧ ∀ j, j < l.length → ∃ b off, a0 = some ⟨b, off, none⟩ ∧ b < B ∧ W.cell? ⟨b, off + j, none⟩ = some (.string (l.getD j ⟨#[]⟩)) := by
  obtain ⟨h0, -, a0, cap, rfl, hc, h⟩ := h
  refine ⟨h0, a0, cap, rfl, hc, fun j hj => ?_⟩
  obtain ⟨b, off, e1, e2, e3⟩ := h j (by omega)
  exact ⟨b, off, e1, e2, by rw [e3]; simp [List.getD, hj]⟩
theorem ReadsS.now {W W' : World} {v : Value} {l : List ByteArray} (h : ReadsS W.heap.size W v l) (hb : Below W.heap.size W W') : ReadsS W'.heap.size W' v l := ReadsV.now h hb
theorem readsS_own {W : World} {base n : Nat} {e : TypeId} {v : Value} {l : List ByteArray} (h : W.ownsRow base e 1 v n (l.map Value.string)) (hn : n = l.length) (hl : l.length ≤ 140737488355328) : ReadsS W.heap.size W v l := by
  subst hn
  exact readsV_own h hl

/-- What has been copied after k rounds. -/
def copiedS (l : List ByteArray) (k : Nat) : List Value := (l.take k).map Value.string ++ (List.replicate (l.length - k) (⟨#[]⟩ : ByteArray)).map Value.string
theorem copiedS_set (l : List ByteArray) (k : Nat) (h : k < l.length) : (copiedS l k).set k (.string (l.getD k ⟨#[]⟩)) = copiedS l (k + 1) := by
  unfold copiedS
  have e : l.length - k = (l.length - (k + 1)) + 1 := by omega
  rw [List.set_append_right _ _ (by simp; omega), e, List.replicate_succ, List.map_cons]
  have e2 : k - ((l.take k).map Value.string).length = 0 := by simp; omega
  rw [e2, List.set_cons_zero, List.take_succ_eq_append_getElem h, List.map_append]
  simp [List.getD, h]
theorem copiedS_full (l : List ByteArray) : copiedS l l.length = l.map Value.string := by
  unfold copiedS; simp
theorem copiedS_zero (l : List ByteArray) : (madeCells #[Value.string ⟨#[]⟩] (l.length * 1)).toList = copiedS l 0 := by
  refine List.ext_getElem (by simp [madeCells, copiedS]) fun i h1 h2 => ?_
  simp [madeCells, copiedS, Nat.mod_one]
theorem copiedS_at (l : List ByteArray) (k : Nat) (h : k < l.length) : (copiedS l k)[k]? = some (.string ⟨#[]⟩) := by
  unfold copiedS
  rw [List.getElem?_append_right (by simp; omega)]
  have e2 : k - ((l.take k).map Value.string).length = 0 := by simp; omega
  rw [e2]
  have e : l.length - k = (l.length - (k + 1)) + 1 := by omega
  rw [e, List.replicate_succ]
  simp

/-- What szStringS tells. -/
def SzS (l : List ByteArray) (left r : Int) : Prop := -1 ≤ r ∧ (0 ≤ r → r ≤ left ∧ (l.length : Int) ≤ left ∧ ∀ z ∈ l, (z.size : Int) ≤ left)
/-- A digit's byte. -/
def dig (k : Nat) : UInt8 := UInt8.ofNat (48 + k % 10)
theorem dig_nat (k : Nat) : ((dig k).toNat : Int) = 48 + (k : Int) % 10 := by
  have h : (dig k).toNat = 48 + k % 10 := by
    unfold dig
    rw [UInt8.toNat_ofNat']
    omega
  omega
/-- What markText writes for a number. -/
def mtail (k : Nat) : ByteArray := if k = 0 then ⟨#[]⟩ else mtail (k / 10) ++ ⟨#[dig k]⟩
  termination_by k
  decreasing_by omega
theorem mtail_pos {k : Nat} (h : 0 < k) : mtail k = mtail (k / 10) ++ ⟨#[dig k]⟩ := by
  rw [mtail, if_neg (by omega)]
theorem mtail_zero : mtail 0 = ⟨#[]⟩ := by rw [mtail, if_pos rfl]
def mtext (k : Nat) : ByteArray := (⟨#[109]⟩ : ByteArray) ++ mtail k
theorem conv_one (w : World) (x : Int) (c : UInt8) (h : x = (c.toNat : Int)) :
    (convert 22 9 (.slice (some ⟨w.heap.size, 0, none⟩) 1 1)).run Tryd.prog (w.alloc (.cells #[.int .u8 x] 5)) = .ok (.string ⟨#[c]⟩) (w.alloc (.cells #[.int .u8 x] 5)) := by
  subst h
  have h9 := run_convert_bytes_arg (P := Tryd.prog) (w.alloc (.cells #[.int .u8 (c.toNat : Int)] 5)) 22 5 Tryd.underlying22 Tryd.underlying5 w.heap.size 0 1 1 [(c.toNat : Int)] rfl (fun i hi => by
    obtain rfl : i = 0 := by omega
    rw [World.cell?_alloc_mark]
    rfl) 9 Tryd.underlying9
  rw [show strOfNums [(c.toNat : Int)] = ⟨#[c]⟩ by simp [strOfNums]] at h9
  exact h9
theorem str_nil (s : ByteArray) : s ++ (⟨#[]⟩ : ByteArray) = s := ByteArray.append_empty
theorem nil_str (s : ByteArray) : (⟨#[]⟩ : ByteArray) ++ s = s := ByteArray.empty_append
/-- The texts that markStringS writes. -/
def smarks (k0 n : Nat) : List ByteArray := (List.range n).map fun i => mtext (k0 + i)
theorem smarks_length (k0 n : Nat) : (smarks k0 n).length = n := by simp [smarks]
theorem smarks_getD (k0 n j : Nat) (h : j < n) : (smarks k0 n).getD j ⟨#[]⟩ = mtext (k0 + j) := by simp [smarks, List.getD, h]
/-- What has been marked after j rounds. -/
def smarked (k0 : Nat) (xs : List Value) (j : Nat) : List Value := (smarks k0 j).map Value.string ++ xs.drop j
theorem smarked_set (k0 : Nat) (xs : List Value) (j : Nat) (h : j < xs.length) : (smarked k0 xs j).set j (.string (mtext (k0 + j))) = smarked k0 xs (j + 1) := by
  unfold smarked
  rw [List.set_append_right _ _ (by simp [smarks_length])]
  have e2 : j - ((smarks k0 j).map Value.string).length = 0 := by simp [smarks_length]
  rw [e2, List.drop_eq_getElem_cons h, List.set_cons_zero]
  simp [smarks, List.range_succ]
theorem smarked_at (k0 : Nat) (xs : List Value) (j : Nat) : (smarked k0 xs j)[j]? = xs[j]? := by
  unfold smarked
  rw [List.getElem?_append_right (by simp [smarks_length])]
  simp [smarks_length, List.getElem?_drop]
theorem smarked_full (k0 : Nat) (xs : List Value) : smarked k0 xs xs.length = (smarks k0 xs.length).map Value.string := by
  unfold smarked; simp
theorem grown_of_below {w w' : World} (h : Below w.heap.size w w') (r : Option Nat) : w.grownBy w' r := ⟨h.os, h.tape, h.output, h.size, fun k hk _ => h.block k hk⟩

end Go.Proofs.YtmhgejljjjmejaaDoor
namespace Go.Proofs.YtmhgejljjjmejaaDoor
open Go.RowKit

theorem row0_length {α : Type} (f : α → List Value) (s : Nat) (hf : ∀ x, (f x).length = s) : ∀ l : List α, (l.flatMap f).length = l.length * s
  | [] => by simp
  | x :: l => by
    rw [List.flatMap_cons, List.length_append, hf, row0_length f s hf l, List.length_cons, Nat.add_mul, Nat.one_mul]
    omega
theorem row0_at {α : Type} (f : α → List Value) (s : Nat) (hf : ∀ x, (f x).length = s) : ∀ (l : List α) (k : Nat) (h : k < l.length) (r : Nat), r < s → (l.flatMap f)[k * s + r]? = (f l[k])[r]?
  | x :: l, 0, _, r, hr => by
    rw [List.flatMap_cons, List.getElem?_append_left (by rw [hf]; omega)]
    simp
  | x :: l, k + 1, h, r, hr => by
    rw [List.flatMap_cons, List.getElem?_append_right (by rw [hf, Nat.add_mul]; omega)]
    have h9 := row0_at f s hf l k (by simpa using h) r hr
    rw [show (k + 1) * s + r - (f x).length = k * s + r by rw [hf, Nat.add_mul]; omega, h9]
    rfl
theorem row0_put {α : Type} (f : α → List Value) (s : Nat) (hf : ∀ x, (f x).length = s) : ∀ (l : List α) (k : Nat) (_ : k < l.length) (r : Nat) (_ : r < s) (v : Value), (l.flatMap f).set (k * s + r) v = (l.take k).flatMap f ++ (f (l[k]'(by assumption))).set r v ++ (l.drop (k + 1)).flatMap f
  | x :: l, 0, _, r, hr, v => by
    rw [List.flatMap_cons, List.set_append_left _ _ (by rw [hf]; omega)]
    simp
  | x :: l, k + 1, h, r, hr, v => by
    have h9 := row0_put f s hf l k (by simpa using h) r hr v
    rw [List.flatMap_cons, List.set_append_right _ _ (by rw [hf, Nat.add_mul]; omega), show (k + 1) * s + r - (f x).length = k * s + r by rw [hf, Nat.add_mul]; omega, h9]
    simp
/-- Cells before, an element's cells, cells behind. -/
theorem row0_mid {α : Type} (f : α → List Value) (l : List α) (k : Nat) (h : k < l.length) (x : α) : (l.set k x).flatMap f = (l.take k).flatMap f ++ f x ++ (l.drop (k + 1)).flatMap f := by
  rw [List.set_eq_take_append_cons_drop, if_pos h, List.flatMap_append, List.flatMap_cons, List.append_assoc]
theorem mid_set (A M C : List Value) (n r : Nat) (hA : A.length = n) (hr : r < M.length) (v : Value) : (A ++ M ++ C).set (n + r) v = A ++ M.set r v ++ C := by
  rw [List.append_assoc, List.set_append_right _ _ (by omega), List.set_append_left _ _ (by omega), show n + r - A.length = r by omega, List.append_assoc]
theorem mid_set0 (A M C : List Value) (n : Nat) (hA : A.length = n) (hr : 0 < M.length) (v : Value) : (A ++ M ++ C).set n v = A ++ M.set 0 v ++ C := mid_set A M C n 0 hA hr v
theorem row0_open {α : Type} (f : α → List Value) (l : List α) (k : Nat) (h : k < l.length) : l.flatMap f = (l.take k).flatMap f ++ f l[k] ++ (l.drop (k + 1)).flatMap f := by
  conv => lhs; rw [← List.take_append_drop k l, List.drop_eq_getElem_cons h]
  rw [List.flatMap_append, List.flatMap_cons, List.append_assoc]
theorem row0_set2 {α : Type} (f : α → List Value) (hf : ∀ x, (f x).length = 2) (m : List α) (k : Nat) (h : k < m.length) (x : α) (a b : Value) (e : f x = [a, b]) :
    ((m.flatMap f).set (k * 2) a).set (k * 2 + 1) b = (m.set k x).flatMap f := by
  have hA : ((m.take k).flatMap f).length = k * 2 := by rw [row0_length f 2 hf, List.length_take, Nat.min_eq_left (by omega)]
  rw [row0_mid f m k h x, row0_open f m k h, e, mid_set0 _ _ _ _ hA (by rw [hf]; decide), mid_set _ _ _ _ 1 hA (by rw [List.length_set, hf]; decide)]
  congr 2
  match f m[k], hf m[k] with
  | [_, _], _ => rfl
theorem row0_set3 {α : Type} (f : α → List Value) (hf : ∀ x, (f x).length = 3) (m : List α) (k : Nat) (h : k < m.length) (x : α) (a b c : Value) (e : f x = [a, b, c]) :
    (((m.flatMap f).set (k * 3) a).set (k * 3 + 1) b).set (k * 3 + 2) c = (m.set k x).flatMap f := by
  have hA : ((m.take k).flatMap f).length = k * 3 := by rw [row0_length f 3 hf, List.length_take, Nat.min_eq_left (by omega)]
  rw [row0_mid f m k h x, row0_open f m k h, e, mid_set0 _ _ _ _ hA (by rw [hf]; decide), mid_set _ _ _ _ 1 hA (by rw [List.length_set, hf]; decide), mid_set _ _ _ _ 2 hA (by rw [List.length_set, List.length_set, hf]; decide)]
  congr 2
  match f m[k], hf m[k] with
  | [_, _, _], _ => rfl
theorem row0_set4 {α : Type} (f : α → List Value) (hf : ∀ x, (f x).length = 4) (m : List α) (k : Nat) (h : k < m.length) (x : α) (a b c d : Value) (e : f x = [a, b, c, d]) :
    ((((m.flatMap f).set (k * 4) a).set (k * 4 + 1) b).set (k * 4 + 2) c).set (k * 4 + 3) d = (m.set k x).flatMap f := by
  have hA : ((m.take k).flatMap f).length = k * 4 := by rw [row0_length f 4 hf, List.length_take, Nat.min_eq_left (by omega)]
  rw [row0_mid f m k h x, row0_open f m k h, e, mid_set0 _ _ _ _ hA (by rw [hf]; decide), mid_set _ _ _ _ 1 hA (by rw [List.length_set, hf]; decide), mid_set _ _ _ _ 2 hA (by simp [hf]), mid_set _ _ _ _ 3 hA (by simp [hf])]
  congr 2
  match f m[k], hf m[k] with
  | [_, _, _, _], _ => rfl
theorem row0_set5 {α : Type} (f : α → List Value) (hf : ∀ x, (f x).length = 5) (m : List α) (k : Nat) (h : k < m.length) (x : α) (a b c d g : Value) (e : f x = [a, b, c, d, g]) :
    (((((m.flatMap f).set (k * 5) a).set (k * 5 + 1) b).set (k * 5 + 2) c).set (k * 5 + 3) d).set (k * 5 + 4) g = (m.set k x).flatMap f := by
  have hA : ((m.take k).flatMap f).length = k * 5 := by rw [row0_length f 5 hf, List.length_take, Nat.min_eq_left (by omega)]
  rw [row0_mid f m k h x, row0_open f m k h, e, mid_set0 _ _ _ _ hA (by rw [hf]; decide), mid_set _ _ _ _ 1 hA (by rw [List.length_set, hf]; decide), mid_set _ _ _ _ 2 hA (by simp [hf]), mid_set _ _ _ _ 3 hA (by simp [hf]), mid_set _ _ _ _ 4 hA (by simp [hf])]
  congr 2
  match f m[k], hf m[k] with
  | [_, _, _, _, _], _ => rfl
theorem take_set0 {α : Type} (l : List α) (d : α) (k : Nat) (h : k < l.length) : (l.take k ++ List.replicate (l.length - k) d).set k (l.getD k d) = l.take (k + 1) ++ List.replicate (l.length - (k + 1)) d := by
  have e : l.length - k = (l.length - (k + 1)) + 1 := by omega
  rw [List.set_append_right _ _ (by rw [List.length_take]; omega), e, List.replicate_succ]
  have e2 : k - (l.take k).length = 0 := by rw [List.length_take]; omega
  rw [e2, List.set_cons_zero, List.take_succ_eq_append_getElem h, List.append_assoc]
  simp only [List.getD_eq_getElem?_getD, List.getElem?_eq_getElem h, Option.getD_some, List.cons_append, List.nil_append]
theorem row0_made {α : Type} (f : α → List Value) (s : Nat) (hs : 0 < s) (hf : ∀ x, (f x).length = s) (d : α) (n : Nat) : (madeCells (f d).toArray (n * s)).toList = (List.replicate n d).flatMap f := by
  refine List.ext_getElem (by rw [row0_length f s hf]; simp [madeCells]) fun i h1 h2 => ?_
  have hi : i < n * s := by simpa [madeCells] using h1
  have hq : i / s < n := (Nat.div_lt_iff_lt_mul hs).2 hi
  have h9 := row0_at f s hf (List.replicate n d) (i / s) (by rw [List.length_replicate]; exact hq) (i % s) (Nat.mod_lt _ hs)
  rw [show i / s * s + i % s = i by rw [Nat.mul_comm]; exact Nat.div_add_mod i s, List.getElem?_eq_getElem h2, List.getElem_replicate] at h9
  have h8 : i % s < (f d).length := by rw [hf]; exact Nat.mod_lt _ hs
  rw [List.getElem?_eq_getElem h8] at h9
  injection h9 with h9
  rw [h9]
  simp only [madeCells, Array.toList_map, Array.toList_range, List.getElem_map, List.getElem_range]
  simp [hf, List.getElem?_eq_getElem h8]
theorem grown_cell0 {a w : World} {c : Nat} (h : a.grownBy w (some c)) (o : Nat) (u : Value) : a.grownBy (w.setCell ⟨c, o, none⟩ u) (some c) :=
  grown_trans h ⟨rfl, rfl, rfl, by simp [World.setCell], fun k _ hk => heap_setCell_other w ⟨c, o, none⟩ k u (fun e => hk (by simp [e]))⟩
end Go.Proofs.YtmhgejljjjmejaaDoor
namespace Go.Proofs.YtmhgejljjjmejaaDoor
open Go.RowKit

theorem wp_appendV {P : Program} {o : Oper} {a : Act} {w : World} {K : Act → World → Prop} {Q : Exit → Act → World → Prop} (s x : Operand) (t : TypeId)
    (ho : o.op = .call { callee := .builtin .append, args := #[s, x], argTypes := #[t, t] })
    (base : Nat) (e : TypeId) (i : TypeInfo) (z : Value) (size bytes : Nat) (ht : P.underlying t = some (.slice e)) (hi : P.info? e = some i) (hz : i.zero = some z)
    (hsize : i.size = size) (hby : i.bytes = bytes) (hzs : z.cells.size = size) (hs0 : 0 < size)
    (v : Value) (n : Nat) (xs : List Value) (hs : a.eval s = v) (hown : w.ownsRow base e size v n xs)
    (a0 : Option Addr) (m c : Nat) (ys : List Value) (hx : a.eval x = .slice a0 m c) (hm : ys.length = m * size) (h1 : ∀ u ∈ ys, u.oneCell' = true) (hnil : a0 = none → c = 0)
    (hsrc : ∀ j, j < m * size → ∃ b off, a0 = some ⟨b, off, none⟩ ∧ w.cell? ⟨b, off + j, none⟩ = ys[j]?)
    (h63 : n + m ≤ 140737488355328) (hbytes : (n + m) * bytes ≤ 140737488355328) (hbase : base ≤ w.heap.size)
    (h : ∀ v' w', w'.ownsRow base e size v' (n + m) (xs ++ ys) → w.grownBy w' v.ownBlock → K (a.put o.dst v') w') : o.wp P a w K Q := by
  cases a0 with
  | none =>
    have h0 : m * size = 0 := by
      rcases Nat.eq_zero_or_pos (m * size) with h0 | h0
      · exact h0
      · obtain ⟨b, off, e1, _⟩ := hsrc 0 h0
        cases e1
    have hy : ys = [] := List.length_eq_zero_iff.1 (hm.trans h0)
    have hm0 : m = 0 := by
      rcases Nat.mul_eq_zero.1 h0 with h | h
      · exact h
      · omega
    subst hy
    subst hm0
    obtain rfl := hnil rfl
    have hrun := run_append_owned_none (P := P) (w := w) base t o.type e i size ht hi v n xs hown
    unfold Oper.wp
    simp [execOp, ho, resolve, invoke, builtin, hs, hx, hrun, Result.andThen]
    exact h v w (by simpa using hown) (grown_refl w _)
  | some ad =>
    refine wp_append_own w s x t ho base e i z size bytes ht hi hz hsize hby hzs hs0 v n xs hs hown ad m c ys hx hm ?_ h1 (by unfold maxLen; omega) hbytes hbase (fun v' w' h2 h3 _ => h v' w' h2 h3)
    intro j u hu
    have hj : j < m * size := by
      have := (List.getElem?_eq_some_iff.1 hu).1
      omega
    obtain ⟨b, off, e1, e2⟩ := hsrc j hj
    cases e1
    have e3 : (⟨b, off, none⟩ : Addr).add j = ⟨b, off + j, none⟩ := by unfold Addr.add; split <;> simp_all
    rw [e3, e2]
    exact hu
theorem step_appendV {P : Program} {ops : Array Oper} {o : Oper} {a : Act} {w : World} {K : Act → World → Prop} {Q : Exit → Act → World → Prop} {E : Prop} (hgd : o.guard = none) (s x : Operand) (t : TypeId)
    (ho : o.op = .call { callee := .builtin .append, args := #[s, x], argTypes := #[t, t] })
    (base : Nat) (e : TypeId) (i : TypeInfo) (z : Value) (size bytes : Nat) (ht : P.underlying t = some (.slice e)) (hi : P.info? e = some i) (hz : i.zero = some z)
    (hsize : i.size = size) (hby : i.bytes = bytes) (hzs : z.cells.size = size) (hs0 : 0 < size)
    (v : Value) (n : Nat) (xs : List Value) (hs : a.eval s = v) (hown : w.ownsRow base e size v n xs)
    (a0 : Option Addr) (m c : Nat) (ys : List Value) (hx : a.eval x = .slice a0 m c) (hm : ys.length = m * size) (h1 : ∀ u ∈ ys, u.oneCell' = true) (hnil : a0 = none → c = 0)
    (hsrc : ∀ j, j < m * size → ∃ b off, a0 = some ⟨b, off, none⟩ ∧ w.cell? ⟨b, off + j, none⟩ = ys[j]?)
    (h63 : n + m ≤ 140737488355328) (hbytes : (n + m) * bytes ≤ 140737488355328) (hbase : base ≤ w.heap.size)
    (h : ∀ v' w', w'.ownsRow base e size v' (n + m) (xs ++ ys) → w.grownBy w' v.ownBlock → K (a.put o.dst v') w') :
    if Region.wanted o (yielded ops a.tmps) = true then Oper.wp P o a w K Q else E := by
  have hw : Region.wanted o (yielded ops a.tmps) = true := by simp [Region.wanted, hgd]
  rw [if_pos hw]
  exact wp_appendV s x t ho base e i z size bytes ht hi hz hsize hby hzs hs0 v n xs hs hown a0 m c ys hx hm h1 hnil hsrc h63 hbytes hbase h
end Go.Proofs.YtmhgejljjjmejaaDoor
