/-
  The program's contracts of chapter 5 in the form that the exact laws' walks ask: i_F (all but AddWord: ListImplG).
-/
import Derived.Test.YtcpojeiciaghmaaListImplE
namespace Go.Proofs.Ytcpojeiciaghmaa
open Go.RowKit

theorem i_IsList (v : Value) (l : List (ByteArray × Int × Int × Int)) (w : World) (hR : ReadsListed w.heap.size w v l) (_hZ : ∀ z ∈ l, ok_Listed z) (hl : l.length ≤ 1048576) (_hS : ∀ z ∈ l, z.1.size ≤ 1048576) :
    Calls Try.prog 13 #[v] w fun e w' => ∃ r, r = islW l ∧ e = .returned (.bool r) ∧ Below w.heap.size w w' :=
  (iislist_any l (by omega) v w hR).mono fun _ _ ⟨h1, h2⟩ => ⟨_, rfl, h1, h2⟩
theorem i_WordsAt (v : Value) (l : List (ByteArray × Int × Int × Int)) (t : Int) (w : World) (hR : ReadsListed w.heap.size w v l) (_hZ : ∀ z ∈ l, ok_Listed z) (hl : l.length ≤ 1048576) (_hS : ∀ z ∈ l, z.1.size ≤ 1048576) (_lo : -9223372036854775808 ≤ t) (_hi : t ≤ 9223372036854775807) :
    Calls Try.prog 12 #[v, .int .i64 t] w fun e w' => ∃ L v', L = atW l t ∧ L.length ≤ 16777216 ∧ e = .returned v' ∧ w'.ownsRow w.heap.size 9 1 v' L.length (L.map Value.string) ∧ Below w.heap.size w w' :=
  (iat_any l t (by omega) v w hR).mono fun _ _ ⟨v', h1, h2, h3⟩ => ⟨_, v', rfl, Nat.le_trans (atW_len l t) (by omega), h1, h2, h3⟩
theorem i_EndWord (v : Value) (l : List (ByteArray × Int × Int × Int)) (x : ByteArray) (t : Int) (w : World) (hR : ReadsListed w.heap.size w v l) (_hZ : ∀ z ∈ l, ok_Listed z) (hl : l.length ≤ 1048576) (_hS : ∀ z ∈ l, z.1.size ≤ 1048576) (_hx : x.size ≤ 1048576) (_lo : -9223372036854775808 ≤ t) (_hi : t ≤ 9223372036854775807) :
    Calls Try.prog 18 #[v, .string x, .int .i64 t] w fun e w' => ∃ L b v', (L = (endW l x t).1 ∧ b = (endW l x t).2) ∧ L.length ≤ 16777216 ∧ e = .returned (.tuple #[v', .bool b]) ∧ w'.ownsRow w.heap.size 32 4 v' L.length (row_Listed L) ∧ Below w.heap.size w w' :=
  (iend_any l x t hl v w hR).mono fun _ _ ⟨v', h1, h2, h3⟩ => ⟨_, _, v', ⟨rfl, rfl⟩, by rw [endW_len]; omega, h1, h2, h3⟩
theorem i_ScoreOf (v : Value) (l : List (ByteArray × Int × Int × Int)) (u : Value) (ws : List ByteArray) (w : World) (hR : ReadsListed w.heap.size w v l) (_hZ : ∀ z ∈ l, ok_Listed z) (hl : l.length ≤ 1048576) (_hS : ∀ z ∈ l, z.1.size ≤ 1048576) (hR' : ReadsS w.heap.size w u ws) (hl' : ws.length ≤ 1048576) (_hS' : ∀ z ∈ ws, z.size ≤ 1048576) :
    Calls Try.prog 20 #[v, u] w fun e w' => ∃ r, r = scoreW l ws ∧ e = .returned (.int .i64 r) ∧ Below w.heap.size w w' :=
  (iscore_any l ws (by omega) (by omega) v u w hR hR').mono fun _ _ ⟨h1, h2⟩ => ⟨_, rfl, h1, h2⟩
theorem i_HasWord (u : Value) (ws : List ByteArray) (x : ByteArray) (w : World) (hR' : ReadsS w.heap.size w u ws) (hl' : ws.length ≤ 1048576) (_hS' : ∀ z ∈ ws, z.size ≤ 1048576) (_hx : x.size ≤ 1048576) :
    Calls Try.prog 14 #[u, .string x] w fun e w' => ∃ r, r = hasW ws x ∧ e = .returned (.bool r) ∧ Below w.heap.size w w' :=
  (ihas_any ws x (by omega) u w hR').mono fun _ _ ⟨h1, h2⟩ => ⟨_, rfl, h1, by subst h2; exact Below.refl _ _⟩
end Go.Proofs.Ytcpojeiciaghmaa
