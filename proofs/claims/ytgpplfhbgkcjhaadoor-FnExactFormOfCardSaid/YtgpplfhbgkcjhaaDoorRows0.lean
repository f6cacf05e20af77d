/-
  Rows of elements of s cells each, of no program.
-/
import Derived.Test.YtgpplfhbgkcjhaaDoorVals
namespace Go.Proofs.YtgpplfhbgkcjhaaDoor
open Go.RowKit

theorem row0_length {α : Type} (f : α → List Value) (s : Nat) (hf : ∀ x, (f x).length = s) : ∀ l : List α, (l.flatMap f).length = l.length * s
  | [] => by simp
  | x :: l => by
    rw [List.flatMap_cons, List.length_append, hf, row0_length f s hf l, List.length_cons, Nat.add_mul, Nat.one_mul]
    omega
theorem row0_at {α : Type} (f : α → List Value) (s : Nat) (hf : ∀ x, (f x).length = s) : ∀ (l : List α) (k : Nat) (h : k < l.length) (r : Nat), r < s → (l.flatMap f)[k * s + r]? = (f l[k])[r]?
  | x :: l, 0, _, r, hr => by
    rw [List.flatMap_cons, List.getElem?_append_left (by rw [hf]; omega)]
    simp
  | x :: l, k + 1, h, r, hr => by
    rw [List.flatMap_cons, List.getElem?_append_right (by rw [hf, Nat.add_mul]; omega)]
    have h9 := row0_at f s hf l k (by simpa using h) r hr
    rw [show (k + 1) * s + r - (f x).length = k * s + r by rw [hf, Nat.add_mul]; omega, h9]
    rfl
theorem row0_put {α : Type} (f : α → List Value) (s : Nat) (hf : ∀ x, (f x).length = s) : ∀ (l : List α) (k : Nat) (_ : k < l.length) (r : Nat) (_ : r < s) (v : Value), (l.flatMap f).set (k * s + r) v = (l.take k).flatMap f ++ (f (l[k]'(by assumption))).set r v ++ (l.drop (k + 1)).flatMap f
  | x :: l, 0, _, r, hr, v => by
    rw [List.flatMap_cons, List.set_append_left _ _ (by rw [hf]; omega)]
    simp
  | x :: l, k + 1, h, r, hr, v => by
    have h9 := row0_put f s hf l k (by simpa using h) r hr v
    rw [List.flatMap_cons, List.set_append_right _ _ (by rw [hf, Nat.add_mul]; omega), show (k + 1) * s + r - (f x).length = k * s + r by rw [hf, Nat.add_mul]; omega, h9]
    simp
/-- Cells before, an element's cells, cells behind. -/
theorem row0_mid {α : Type} (f : α → List Value) (l : List α) (k : Nat) (h : k < l.length) (x : α) : (l.set k x).flatMap f = (l.take k).flatMap f ++ f x ++ (l.drop (k + 1)).flatMap f := by
  rw [List.set_eq_take_append_cons_drop, if_pos h, List.flatMap_append, List.flatMap_cons, List.append_assoc]
theorem mid_set (A M C : List Value) (n r : Nat) (hA : A.length = n) (hr : r < M.length) (v : Value) : (A ++ M ++ C).set (n + r) v = A ++ M.set r v ++ C := by
  rw [List.append_assoc, List.set_append_right _ _ (by omega), List.set_append_left _ _ (by omega), show n + r - A.length = r by omega, List.append_assoc]
theorem mid_set0 (A M C : List Value) (n : Nat) (hA : A.length = n) (hr : 0 < M.length) (v : Value) : (A ++ M ++ C).set n v = A ++ M.set 0 v ++ C := mid_set A M C n 0 hA hr v
theorem row0_open {α : Type} (f : α → List Value) (l : List α) (k : Nat) (h : k < l.length) : l.flatMap f = (l.take k).flatMap f ++ f l[k] ++ (l.drop (k + 1)).flatMap f := by
  conv => lhs; rw [← List.take_append_drop k l, List.drop_eq_getElem_cons h]
  rw [List.flatMap_append, List.flatMap_cons, List.append_assoc]
theorem row0_set2 {α : Type} (f : α → List Value) (hf : ∀ x, (f x).length = 2) (m : List α) (k : Nat) (h : k < m.length) (x : α) (a b : Value) (e : f x = [a, b]) :
    ((m.flatMap f).set (k * 2) a).set (k * 2 + 1) b = (m.set k x).flatMap f := by
  have hA : ((m.take k).flatMap f).length = k * 2 := by rw [row0_length f 2 hf, List.length_take, Nat.min_eq_left (by omega)]
  rw [row0_mid f m k h x, row0_open f m k h, e, mid_set0 _ _ _ _ hA (by rw [hf]; decide), mid_set _ _ _ _ 1 hA (by rw [List.length_set, hf]; decide)]
  congr 2
  match f m[k], hf m[k] with
  | [_, _], _ => rfl
theorem row0_set3 {α : Type} (f : α → List Value) (hf : ∀ x, (f x).length = 3) (m : List α) (k : Nat) (h : k < m.length) (x : α) (a b c : Value) (e : f x = [a, b, c]) :
    (((m.flatMap f).set (k * 3) a).set (k * 3 + 1) b).set (k * 3 + 2) c = (m.set k x).flatMap f := by
  have hA : ((m.take k).flatMap f).length = k * 3 := by rw [row0_length f 3 hf, List.length_take, Nat.min_eq_left (by omega)]
  rw [row0_mid f m k h x, row0_open f m k h, e, mid_set0 _ _ _ _ hA (by rw [hf]; decide), mid_set _ _ _ _ 1 hA (by rw [List.length_set, hf]; decide), mid_set _ _ _ _ 2 hA (by rw [List.length_set, List.length_set, hf]; decide)]
  congr 2
  match f m[k], hf m[k] with
  | [_, _, _], _ => rfl
theorem row0_set4 {α : Type} (f : α → List Value) (hf : ∀ x, (f x).length = 4) (m : List α) (k : Nat) (h : k < m.length) (x : α) (a b c d : Value) (e : f x = [a, b, c, d]) :
    ((((m.flatMap f).set (k * 4) a).set (k * 4 + 1) b).set (k * 4 + 2) c).set (k * 4 + 3) d = (m.set k x).flatMap f := by
  have hA : ((m.take k).flatMap f).length = k * 4 := by rw [row0_length f 4 hf, List.length_take, Nat.min_eq_left (by omega)]
  rw [row0_mid f m k h x, row0_open f m k h, e, mid_set0 _ _ _ _ hA (by rw [hf]; decide), mid_set _ _ _ _ 1 hA (by rw [List.length_set, hf]; decide), mid_set _ _ _ _ 2 hA (by simp [hf]), mid_set _ _ _ _ 3 hA (by simp [hf])]
  congr 2
  match f m[k], hf m[k] with
  | [_, _, _, _], _ => rfl
theorem row0_set5 {α : Type} (f : α → List Value) (hf : ∀ x, (f x).length = 5) (m : List α) (k : Nat) (h : k < m.length) (x : α) (a b c d g : Value) (e : f x = [a, b, c, d, g]) :
    (((((m.flatMap f).set (k * 5) a).set (k * 5 + 1) b).set (k * 5 + 2) c).set (k * 5 + 3) d).set (k * 5 + 4) g = (m.set k x).flatMap f := by
  have hA : ((m.take k).flatMap f).length = k * 5 := by rw [row0_length f 5 hf, List.length_take, Nat.min_eq_left (by omega)]
  rw [row0_mid f m k h x, row0_open f m k h, e, mid_set0 _ _ _ _ hA (by rw [hf]; decide), mid_set _ _ _ _ 1 hA (by rw [List.length_set, hf]; decide), mid_set _ _ _ _ 2 hA (by simp [hf]), mid_set _ _ _ _ 3 hA (by simp [hf]), mid_set _ _ _ _ 4 hA (by simp [hf])]
  congr 2
  match f m[k], hf m[k] with
  | [_, _, _, _, _], _ => rfl
theorem take_set0 {α : Type} (l : List α) (d : α) (k : Nat) (h : k < l.length) : (l.take k ++ List.replicate (l.length - k) d).set k (l.getD k d) = l.take (k + 1) ++ List.replicate (l.length - (k + 1)) d := by
  have e : l.length - k = (l.length - (k + 1)) + 1 := by omega
  rw [List.set_append_right _ _ (by rw [List.length_take]; omega), e, List.replicate_succ]
  have e2 : k - (l.take k).length = 0 := by rw [List.length_take]; omega
  rw [e2, List.set_cons_zero, List.take_succ_eq_append_getElem h, List.append_assoc]
  simp only [List.getD_eq_getElem?_getD, List.getElem?_eq_getElem h, Option.getD_some, List.cons_append, List.nil_append]
theorem row0_made {α : Type} (f : α → List Value) (s : Nat) (hs : 0 < s) (hf : ∀ x, (f x).length = s) (d : α) (n : Nat) : (madeCells (f d).toArray (n * s)).toList = (List.replicate n d).flatMap f := by
  refine List.ext_getElem (by rw [row0_length f s hf]; simp [madeCells]) fun i h1 h2 => ?_
  have hi : i < n * s := by simpa [madeCells] using h1
  have hq : i / s < n := (Nat.div_lt_iff_lt_mul hs).2 hi
  have h9 := row0_at f s hf (List.replicate n d) (i / s) (by rw [List.length_replicate]; exact hq) (i % s) (Nat.mod_lt _ hs)
  rw [show i / s * s + i % s = i by rw [Nat.mul_comm]; exact Nat.div_add_mod i s, List.getElem?_eq_getElem h2, List.getElem_replicate] at h9
  have h8 : i % s < (f d).length := by rw [hf]; exact Nat.mod_lt _ hs
  rw [List.getElem?_eq_getElem h8] at h9
  injection h9 with h9
  rw [h9]
  simp only [madeCells, Array.toList_map, Array.toList_range, List.getElem_map, List.getElem_range]
  simp [hf, List.getElem?_eq_getElem h8]
theorem grown_cell0 {a w : World} {c : Nat} (h : a.grownBy w (some c)) (o : Nat) (u : Value) : a.grownBy (w.setCell ⟨c, o, none⟩ u) (some c) :=
  grown_trans h ⟨rfl, rfl, rfl, by simp [World.setCell], fun k _ hk => heap_setCell_other w ⟨c, o, none⟩ k u (fun e => hk (by simp [e]))⟩
end Go.Proofs.YtgpplfhbgkcjhaaDoor
