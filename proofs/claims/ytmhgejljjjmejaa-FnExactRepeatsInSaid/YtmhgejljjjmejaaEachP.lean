/-
  Words without repeats: the list; how many repeats; a map of words that have been met.
-/
import Derived.Test.YtmhgejljjjmejaaListSpec
import Derived.Test.YtmhgejljjjmejaaNest
import Derived.Maps.OwnSet
namespace Go.Proofs.Ytmhgejljjjmejaa
open Go.RowKit
open Go.Maps (Keyed)

/-- The words without those that are the same as an earlier one. -/
def addO (acc : List ByteArray) (x : ByteArray) : List ByteArray := if hasW acc x = true then acc else acc ++ [x]
def onceW (l : List ByteArray) : List ByteArray := l.foldl addO []
theorem hasW_iff (l : List ByteArray) (x : ByteArray) : hasW l x = true ↔ x ∈ l := by
  unfold hasW
  rw [List.any_eq_true]
  constructor
  · rintro ⟨y, hy, h⟩
    rw [decide_eq_true_eq] at h
    exact h ▸ hy
  · intro h
    exact ⟨x, h, by simp⟩
theorem onceW_snoc (l : List ByteArray) (x : ByteArray) : onceW (l ++ [x]) = addO (onceW l) x := by
  unfold onceW
  rw [List.foldl_append]
  rfl
theorem addO_mem (acc : List ByteArray) (x z : ByteArray) : z ∈ addO acc x ↔ z ∈ acc ∨ z = x := by
  unfold addO
  split
  · rename_i h
    rw [hasW_iff] at h
    exact ⟨Or.inl, fun e => e.elim id (fun e => e ▸ h)⟩
  · simp
theorem fold_mem (l : List ByteArray) : ∀ (acc : List ByteArray) (z : ByteArray), z ∈ l.foldl addO acc ↔ z ∈ acc ∨ z ∈ l := by
  induction l with
  | nil => intro acc z; simp
  | cons a l ih =>
    intro acc z
    rw [List.foldl_cons, ih, addO_mem, List.mem_cons, or_assoc]
theorem onceW_mem (l : List ByteArray) (z : ByteArray) : z ∈ onceW l ↔ z ∈ l := by
  unfold onceW
  rw [fold_mem]
  simp
theorem onceW_has (l : List ByteArray) (x : ByteArray) : hasW (onceW l) x = hasW l x := by
  rw [Bool.eq_iff_iff, hasW_iff, hasW_iff, onceW_mem]
theorem take_nextB (l : List ByteArray) (k : Nat) (h : k < l.length) : l.take (k + 1) = l.take k ++ [l.getD k ⟨#[]⟩] := by
  rw [List.take_succ_eq_append_getElem h]
  simp [List.getD, h]
theorem onceW_next (l : List ByteArray) (k : Nat) (h : k < l.length) : onceW (l.take (k + 1)) = if hasW (l.take k) (l.getD k ⟨#[]⟩) = true then onceW (l.take k) else onceW (l.take k) ++ [l.getD k ⟨#[]⟩] := by
  rw [take_nextB l k h, onceW_snoc]
  unfold addO
  rw [onceW_has]
theorem onceW_len (l : List ByteArray) : ∀ k, (onceW (l.take k)).length ≤ k
  | 0 => by simp [onceW]
  | k + 1 => by
    have ih := onceW_len l k
    by_cases h : k < l.length
    · rw [onceW_next l k h]
      split
      · omega
      · rw [List.length_append, List.length_singleton]; omega
    · rw [List.take_of_length_le (by omega)]
      rw [List.take_of_length_le (by omega)] at ih
      omega
theorem onceW_le (l : List ByteArray) : (onceW l).length ≤ l.length := by
  have h := onceW_len l l.length
  rwa [List.take_length] at h
theorem onceW_nodup (l : List ByteArray) : (onceW l).Nodup := by
  have h : ∀ (l acc : List ByteArray), acc.Nodup → (l.foldl addO acc).Nodup := by
    intro l
    induction l with
    | nil => intro acc h; exact h
    | cons a l ih =>
      intro acc h
      rw [List.foldl_cons]
      apply ih
      unfold addO
      split
      · exact h
      · rename_i h9
        rw [hasW_iff] at h9
        rw [List.nodup_append]
        exact ⟨h, by simp, fun x hx y hy e => h9 (by rw [List.mem_singleton] at hy; rw [← hy, ← e]; exact hx)⟩
  exact h l [] List.nodup_nil
theorem onceW_sub (l : List ByteArray) : (onceW l).Sublist l := by
  have h : ∀ k, (onceW (l.take k)).Sublist (l.take k) := by
    intro k
    induction k with
    | zero => simp [onceW]
    | succ k ih =>
      by_cases h : k < l.length
      · rw [onceW_next l k h, take_nextB l k h]
        split
        · exact ih.trans (List.sublist_append_left _ _)
        · exact ih.append (List.Sublist.refl _)
      · rw [List.take_of_length_le (by omega)]
        rw [List.take_of_length_le (by omega)] at ih
        exact ih
  have h9 := h l.length
  rwa [List.take_length] at h9
/-- How many of the words are the same as an earlier one. -/
def repsN (l : List ByteArray) : Nat := l.length - (onceW l).length
theorem repsN_next (l : List ByteArray) (k : Nat) (h : k < l.length) : repsN (l.take (k + 1)) = if hasW (l.take k) (l.getD k ⟨#[]⟩) = true then repsN (l.take k) + 1 else repsN (l.take k) := by
  have h1 := onceW_len l k
  unfold repsN
  rw [onceW_next l k h, List.length_take, List.length_take]
  split
  · omega
  · rw [List.length_append, List.length_singleton]; omega

/-- A bool of a map. -/
def rdB (v : Value) : Option (DataW Unit × List MemPlace) := match v with
  | .bool b => some (.lit (.bool b), [])
  | _ => none
theorem rdB_mk (b : Bool) : rdB (.bool b) = some (.lit (.bool b), []) := rfl
theorem rdB_inv {v : Value} {b : Bool} {ps : List MemPlace} (h : rdB v = some (.lit (.bool b), ps)) : v = .bool b := by
  unfold rdB at h
  split at h
  · rename_i c
    simp only [Option.some.injEq, Prod.mk.injEq, DataW.lit.injEq, Lit.bool.injEq] at h
    rw [h.1]
  · cases h
def keyS (x : ByteArray) : Lit := .string x.data.toList
theorem keyS_inj {x y : ByteArray} (h : keyS x = keyS y) : x = y := by
  unfold keyS at h
  injection h with h
  exact ByteArray.ext (Array.ext' h)
theorem law_str : Keyed Try.prog 9 := Maps.string_keyed Try.underlying9
theorem zero_bool (w : World) : (zeroValue 4).run Try.prog w = .ok (.bool false) w := by kernel_rfl
/-- BLOCK b OF w IS THE MAP THAT TELLS WHICH WORDS HAVE BEEN MET. -/
def WordMap (w : World) (b : Nat) (L : List ByteArray) : Prop := ∃ D : DataW Unit, w.ownsMap Try.prog 9 rdB b L.length D ∧ ∀ x : ByteArray, D.atKey (keyS x) (.lit (.bool false)) = .lit (.bool (hasW L x))
theorem wm_made (w : World) : WordMap (w.alloc (.map #[] 0)) w.heap.size [] := ⟨.map [], World.ownsMap_made _ _ _ _, fun _ => rfl⟩
theorem wm_lt {w : World} {b : Nat} {L : List ByteArray} (h : WordMap w b L) : b < w.heap.size := by
  obtain ⟨D, h1, -⟩ := h
  exact h1.lt
theorem wm_kept {w w' : World} {row : Option Nat} {b : Nat} {L : List ByteArray} (h : WordMap w b L) (hg : w.grownBy w' row) (hne : some b ≠ row) : WordMap w' b L := by
  obtain ⟨D, h1, h2⟩ := h
  exact ⟨D, h1.kept hg hne, h2⟩
theorem wm_below {w w' : World} {b : Nat} {L : List ByteArray} (h : WordMap w b L) (hb : Below w.heap.size w w') : WordMap w' b L := by
  have hlt := wm_lt h
  obtain ⟨D, ⟨es, clock, h1, h2⟩, h3⟩ := h
  exact ⟨D, ⟨es, clock, (hb.block b hlt).trans h1, h2⟩, h3⟩
theorem wm_alloc {w : World} {b : Nat} {L : List ByteArray} (h : WordMap w b L) (o : Obj) : WordMap (w.alloc o) b L := wm_below h ((Below.refl _ _).alloc (Nat.le_refl _) o)
/-- A row is no map. -/
theorem wm_row {w : World} {b base n s : Nat} {e : TypeId} {v : Value} {xs : List Value} {L : List ByteArray} (h : WordMap w b L) (ho : w.ownsRow base e s v n xs) : v.ownBlock ≠ some b := by
  obtain ⟨D, ⟨es, clock, h1, -⟩, -⟩ := h
  rcases ho.2 with ⟨rfl, -⟩ | ⟨g, cap, cur, rfl, -, hg, -⟩
  · exact fun e => by cases e
  · intro e9
    have e8 : g = b := by simpa [Value.ownBlock] using e9
    subst e8
    rw [h1] at hg
    cases hg
/-- 'm[x]'. -/
theorem wm_look {w : World} {ops : Array Oper} {rest : List Oper} {o : Oper} {a : Act} {Q : Exit → Act → World → Prop} (hg : o.guard = none) (m x : Operand) (hop : o.op = Op.lookup 70 m x false) (b : Nat) (L : List ByteArray) (hm : a.eval m = .map (some b)) (h : WordMap w b L) (q : ByteArray) (hx : a.eval x = .string q) (hq : q.size ≤ maxLen)
    (t : Bool) (ht : t = hasW L q)
    (hK : wpList Try.prog ops Q rest (a.put o.dst (.bool t)) w) : wpList Try.prog ops Q (o :: rest) a w := by
  obtain ⟨D, h1, h2⟩ := h
  obtain ⟨v', ps, hrun, hv'⟩ := h1.lookup law_str Try.underlying70 (zero_bool w) (rdB_mk false) (key := .string q) (kl := keyS q) (WideMaps.keyOf_string_mk Try.underlying9 hq)
  rw [h2] at hv'
  rw [rdB_inv hv', ← ht] at hrun
  refine wpList_plain hg fun K' hK' => ?_
  unfold Oper.wp
  simp [execOp, hop, hm, hx, hrun, Result.andThen]
  exact hK' _ _ hK
/-- The run of 'm[x]', for a walk by equations. -/
theorem wm_run {w : World} {b : Nat} {L : List ByteArray} (h : WordMap w b L) {q : ByteArray} (hq : q.size ≤ maxLen) : (Instr.lookup 70 (.map (some b)) (.string q) false).run Try.prog w = .ok (.bool (hasW L q)) w := by
  obtain ⟨D, h1, h2⟩ := h
  obtain ⟨v', ps, hrun, hv'⟩ := h1.lookup law_str Try.underlying70 (zero_bool w) (rdB_mk false) (key := .string q) (kl := keyS q) (WideMaps.keyOf_string_mk Try.underlying9 hq)
  rw [h2] at hv'
  rw [rdB_inv hv'] at hrun
  exact hrun
theorem hasW_snoc (L : List ByteArray) (x y : ByteArray) : hasW (L ++ [x]) y = (hasW L y || decide (x = y)) := by
  unfold hasW
  simp
/-- 'm[x] = true'. -/
theorem wm_put {w : World} {ops : Array Oper} {rest : List Oper} {o : Oper} {a : Act} {Q : Exit → Act → World → Prop} (hg : o.guard = none) (m x v : Operand) (hop : o.op = Op.mapUpdate 70 m x v) (b : Nat) (L : List ByteArray) (hm : a.eval m = .map (some b)) (h : WordMap w b L) (hL : L.length < maxLen) (q : ByteArray) (hx : a.eval x = .string q) (hv : a.eval v = .bool true) (hq : q.size ≤ maxLen)
    (hK : ∀ w', WordMap w' b (L ++ [q]) → w.grownBy w' (some b) → wpList Try.prog ops Q rest (a.put o.dst undef) w') : wpList Try.prog ops Q (o :: rest) a w := by
  obtain ⟨D, h1, h2⟩ := h
  refine wpList_mapUpdate_own w hg m x v 70 hop 9 4 law_str Try.underlying70 rdB b L.length D hm h1 hL (.string q) (.bool true) (keyS q) hx hv (WideMaps.keyOf_string_mk Try.underlying9 hq) (.lit (.bool true)) [] (rdB_mk true) fun w' h3 h4 => hK w' ⟨_, by rw [List.length_append]; exact h3, fun y => ?_⟩ h4
  rw [hasW_snoc]
  by_cases e : q = y
  · subst e
    rw [Maps.atKey_put_same h1.isMap (by unfold keyS; trivial), decide_eq_true rfl, Bool.or_true]
  · rw [Maps.atKey_put_other (fun e9 => e (keyS_inj e9.symm)), h2, decide_eq_false e, Bool.or_false]
end Go.Proofs.Ytmhgejljjjmejaa
