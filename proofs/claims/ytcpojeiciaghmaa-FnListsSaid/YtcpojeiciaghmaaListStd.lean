/-
  The model's contracts of chapter 5 in the form that the exact laws' walks ask: s_F, and u_F: the relation fixes the answer.
-/
import Derived.Test.YtcpojeiciaghmaaAddWord
import Derived.Test.YtcpojeiciaghmaaWordsAt
namespace Go.Proofs.Ytcpojeiciaghmaa
open Go.RowKit

theorem atW_len (l : List (ByteArray × Int × Int × Int)) (t : Int) : (atW l t).length ≤ l.length := by
  unfold atW
  split
  · unfold onW; rw [List.length_map]; exact List.length_filter_le _ _
  · simp
theorem endW_len (l : List (ByteArray × Int × Int × Int)) (x : ByteArray) (t : Int) : (endW l x t).1.length = l.length := by
  unfold endW
  split
  · rfl
  · split
    · rfl
    · split
      · exact setU_length ..
      · rfl
theorem addW_len (l : List (ByteArray × Int × Int × Int)) (x : ByteArray × Int × Int × Int) : (addW l x).1.length ≤ l.length + 1 := by
  unfold addW
  split
  · simp
  · split
    · unfold insW; simp; omega
    · simp
theorem u_IsList {l : List (ByteArray × Int × Int × Int)} {r r' : Bool} (h : r = islW l) (h' : r' = islW l) : r = r' := h.trans h'.symm
theorem s_IsList (v : Value) (l : List (ByteArray × Int × Int × Int)) (w : World) (hR : ReadsListed w.heap.size w v l) (_hZ : ∀ z ∈ l, ok_Listed z) (hl : l.length ≤ 1048576) (_hS : ∀ z ∈ l, z.1.size ≤ 1048576) :
    Calls Try.prog 22 #[v] w fun e w' => ∃ r, r = islW l ∧ e = .returned (.bool r) ∧ Below w.heap.size w w' :=
  (sislist_any l (by omega) v w hR).mono fun _ _ ⟨h1, h2⟩ => ⟨_, rfl, h1, h2⟩
theorem u_WordsAt {l : List (ByteArray × Int × Int × Int)} {t : Int} {L L' : List ByteArray} (h : L = atW l t) (h' : L' = atW l t) : L = L' := h.trans h'.symm
theorem s_WordsAt (v : Value) (l : List (ByteArray × Int × Int × Int)) (t : Int) (w : World) (hR : ReadsListed w.heap.size w v l) (_hZ : ∀ z ∈ l, ok_Listed z) (hl : l.length ≤ 1048576) (_hS : ∀ z ∈ l, z.1.size ≤ 1048576) (_lo : -9223372036854775808 ≤ t) (_hi : t ≤ 9223372036854775807) :
    Calls Try.prog 25 #[v, .int .i64 t] w fun e w' => ∃ L v', L = atW l t ∧ L.length ≤ 16777216 ∧ e = .returned v' ∧ w'.ownsRow w.heap.size 9 1 v' L.length (L.map Value.string) ∧ Below w.heap.size w w' :=
  (sat_any l t (by omega) v w hR).mono fun _ _ ⟨v', h1, h2, h3⟩ => ⟨_, v', rfl, Nat.le_trans (atW_len l t) (by omega), h1, h2, h3⟩
theorem u_AddWord {l : List (ByteArray × Int × Int × Int)} {x : ByteArray × Int × Int × Int} {L L' : List (ByteArray × Int × Int × Int)} {b b' : Bool} (h : L = (addW l x).1 ∧ b = (addW l x).2) (h' : L' = (addW l x).1 ∧ b' = (addW l x).2) : L = L' ∧ b = b' := ⟨h.1.trans h'.1.symm, h.2.trans h'.2.symm⟩
theorem s_AddWord (v : Value) (l : List (ByteArray × Int × Int × Int)) (x : ByteArray) (f u s : Int) (w : World) (hR : ReadsListed w.heap.size w v l) (_hZ : ∀ z ∈ l, ok_Listed z) (hl : l.length ≤ 1048576) (_hS : ∀ z ∈ l, z.1.size ≤ 1048576) (_hK : ok_Listed (x, f, u, s)) (_hx : x.size ≤ 1048576) :
    Calls Try.prog 31 #[v, .agg #[.string x, .int .i64 f, .int .i64 u, .int .i64 s]] w fun e w' => ∃ L b v', (L = (addW l (x, f, u, s)).1 ∧ b = (addW l (x, f, u, s)).2) ∧ L.length ≤ 16777216 ∧ e = .returned (.tuple #[v', .bool b]) ∧ w'.ownsRow w.heap.size 32 4 v' L.length (row_Listed L) ∧ Below w.heap.size w w' :=
  (sadd_any l x f u s hl v w hR).mono fun _ _ ⟨v', h1, h2, h3⟩ => ⟨_, _, v', ⟨rfl, rfl⟩, Nat.le_trans (addW_len l (x, f, u, s)) (by omega), h1, h2, h3⟩
theorem u_EndWord {l : List (ByteArray × Int × Int × Int)} {x : ByteArray} {t : Int} {L L' : List (ByteArray × Int × Int × Int)} {b b' : Bool} (h : L = (endW l x t).1 ∧ b = (endW l x t).2) (h' : L' = (endW l x t).1 ∧ b' = (endW l x t).2) : L = L' ∧ b = b' := ⟨h.1.trans h'.1.symm, h.2.trans h'.2.symm⟩
theorem s_EndWord (v : Value) (l : List (ByteArray × Int × Int × Int)) (x : ByteArray) (t : Int) (w : World) (hR : ReadsListed w.heap.size w v l) (_hZ : ∀ z ∈ l, ok_Listed z) (hl : l.length ≤ 1048576) (_hS : ∀ z ∈ l, z.1.size ≤ 1048576) (_hx : x.size ≤ 1048576) (_lo : -9223372036854775808 ≤ t) (_hi : t ≤ 9223372036854775807) :
    Calls Try.prog 34 #[v, .string x, .int .i64 t] w fun e w' => ∃ L b v', (L = (endW l x t).1 ∧ b = (endW l x t).2) ∧ L.length ≤ 16777216 ∧ e = .returned (.tuple #[v', .bool b]) ∧ w'.ownsRow w.heap.size 32 4 v' L.length (row_Listed L) ∧ Below w.heap.size w w' :=
  (send_any l x t hl v w hR).mono fun _ _ ⟨v', h1, h2, h3⟩ => ⟨_, _, v', ⟨rfl, rfl⟩, by rw [endW_len]; omega, h1, h2, h3⟩
theorem u_ScoreOf {l : List (ByteArray × Int × Int × Int)} {ws : List ByteArray} {r r' : Int} (h : r = scoreW l ws) (h' : r' = scoreW l ws) : r = r' := h.trans h'.symm
theorem s_ScoreOf (v : Value) (l : List (ByteArray × Int × Int × Int)) (u : Value) (ws : List ByteArray) (w : World) (hR : ReadsListed w.heap.size w v l) (_hZ : ∀ z ∈ l, ok_Listed z) (hl : l.length ≤ 1048576) (_hS : ∀ z ∈ l, z.1.size ≤ 1048576) (hR' : ReadsS w.heap.size w u ws) (hl' : ws.length ≤ 1048576) (_hS' : ∀ z ∈ ws, z.size ≤ 1048576) :
    Calls Try.prog 36 #[v, u] w fun e w' => ∃ r, r = scoreW l ws ∧ e = .returned (.int .i64 r) ∧ Below w.heap.size w w' :=
  (sscore_any l ws (by omega) (by omega) v u w hR hR').mono fun _ _ ⟨h1, h2⟩ => ⟨_, rfl, h1, h2⟩
theorem u_HasWord {ws : List ByteArray} {x : ByteArray} {r r' : Bool} (h : r = hasW ws x) (h' : r' = hasW ws x) : r = r' := h.trans h'.symm
theorem s_HasWord (u : Value) (ws : List ByteArray) (x : ByteArray) (w : World) (hR' : ReadsS w.heap.size w u ws) (hl' : ws.length ≤ 1048576) (_hS' : ∀ z ∈ ws, z.size ≤ 1048576) (_hx : x.size ≤ 1048576) :
    Calls Try.prog 38 #[u, .string x] w fun e w' => ∃ r, r = hasW ws x ∧ e = .returned (.bool r) ∧ Below w.heap.size w w' :=
  (shas_any ws x (by omega) u w hR').mono fun _ _ ⟨h1, h2⟩ => ⟨_, rfl, h1, h2⟩
end Go.Proofs.Ytcpojeiciaghmaa
