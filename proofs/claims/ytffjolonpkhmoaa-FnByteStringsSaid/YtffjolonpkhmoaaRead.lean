/-
  Plain facts on reading varints: what ReadUvarint answers at a list of bytes and an offset, and that it hangs on the groups of seven bits alone.
-/
import Derived.Test.YtffjolonpkhmoaaUv
import Derived.IntWalk
import Derived.WalkKit
namespace Go.Proofs.Ytffjolonpkhmoaa

/-- The number that groups spell, the least first. -/
def gval : List Int → Int
  | [] => 0
  | x :: r => x % 128 + 128 * gval r
theorem gval_nonneg : ∀ (l : List Int), 0 ≤ gval l
  | [] => by simp [gval]
  | x :: r => by have := gval_nonneg r; simp only [gval]; omega
/-- A group that is followed by another one. -/
def isCont (x : Int) : Prop := 128 ≤ x ∧ x ≤ 255
theorem enc_groups : ∀ (p : List Int) (x : Int), (∀ y ∈ p, isCont y) → 0 ≤ x → x ≤ 127 → (p = [] ∨ x ≠ 0) → enc (gval (p ++ [x])).toNat = p ++ [x] ∧ (x ≠ 0 → 1 ≤ gval (p ++ [x]))
  | [], x, _, h0, h1, _ => by
    have e : gval ([] ++ [x]) = x := by simp only [List.nil_append, gval]; omega
    rw [e, enc_small (by omega)]
    exact ⟨by simp; omega, fun h => by omega⟩
  | y :: p, x, hp, h0, h1, hx => by
    have hx0 : x ≠ 0 := by rcases hx with h | h; (· cases h); exact h
    obtain ⟨e1, e2⟩ := enc_groups p x (fun z hz => hp z (List.mem_cons_of_mem _ hz)) h0 h1 (Or.inr hx0)
    have e2 := e2 hx0
    have hy := hp y (List.mem_cons_self ..)
    unfold isCont at hy
    have e : gval (y :: p ++ [x]) = y % 128 + 128 * gval (p ++ [x]) := rfl
    rw [e, enc_large (by omega)]
    have e3 : (y % 128 + 128 * gval (p ++ [x])).toNat / 128 = (gval (p ++ [x])).toNat := by omega
    rw [e3, e1]
    refine ⟨?_, fun _ => by omega⟩
    rw [List.cons_append]
    congr 1
    omega
/-- What a varint looks like: groups that are followed, then one that is not, which is zero alone. -/
theorem enc_shape (u : Nat) : ∃ (p : List Int) (x : Int), enc u = p ++ [x] ∧ (∀ y ∈ p, isCont y) ∧ 0 ≤ x ∧ x ≤ 127 ∧ (p = [] ∨ x ≠ 0) ∧ gval (p ++ [x]) = u := by
  induction u using Nat.strongRecOn with
  | _ u ih =>
    by_cases hs : u ≤ 127
    · exact ⟨[], u, by rw [enc_small hs]; rfl, by simp, by omega, by omega, Or.inl rfl, by simp only [List.nil_append, gval]; omega⟩
    · obtain ⟨p, x, e1, e2, e3, e4, e5, e6⟩ := ih (u / 128) (by omega)
      refine ⟨((u % 128 + 128 : Nat) : Int) :: p, x, by rw [enc_large hs, e1]; rfl, fun y hy => ?_, e3, e4, Or.inr fun h => ?_, ?_⟩
      · rcases List.mem_cons.1 hy with h | h
        · subst h; unfold isCont; omega
        · exact e2 y h
      · subst h
        rcases e5 with h | h
        · subst h; simp only [List.nil_append, gval] at e6; omega
        · exact h rfl
      · show ((u % 128 + 128 : Nat) : Int) % 128 + 128 * gval (p ++ [x]) = u
        rw [e6]; omega

/-- At offset 'at_' of b stands the varint of n, which ends before 'next'. -/
def RD (b : List Int) (at_ : Int) (n next : Int) : Prop :=
  0 ≤ at_ ∧ 0 ≤ n ∧ n ≤ 1000000000000 ∧ next = at_ + (enc n.toNat).length ∧ enc n.toNat <+: b.drop at_.toNat
/-- What ReadUvarint answers: number, next offset, true; or 0, 0, false. -/
def RdAns (b : List Int) (at_ : Int) (n next : Int) (ok : Bool) : Prop := (ok = true ∧ RD b at_ n next) ∨ (ok = false ∧ n = 0 ∧ next = 0 ∧ ∀ n' next', ¬ RD b at_ n' next')

theorem split_at : ∀ (p q : List Int) (x y : Int) (r s : List Int), (∀ z ∈ p, isCont z) → (∀ z ∈ q, isCont z) → x ≤ 127 → y ≤ 127 → p ++ x :: r = q ++ y :: s → p = q ∧ x = y
  | [], [], x, y, r, s, _, _, _, _, h => by simp at h; exact ⟨rfl, h.1⟩
  | [], z :: q, x, y, r, s, _, hq, hx, _, h => by
    simp at h
    have := hq z (List.mem_cons_self ..)
    unfold isCont at this
    omega
  | z :: p, [], x, y, r, s, hp, _, _, hy, h => by
    simp at h
    have := hp z (List.mem_cons_self ..)
    unfold isCont at this
    omega
  | z :: p, z' :: q, x, y, r, s, hp, hq, hx, hy, h => by
    simp at h
    obtain ⟨e1, e2⟩ := split_at p q x y r s (fun a ha => hp a (List.mem_cons_of_mem _ ha)) (fun a ha => hq a (List.mem_cons_of_mem _ ha)) hx hy h.2
    exact ⟨by rw [h.1, e1], e2⟩

/-- The bytes from the offset on: groups p that are followed, then x, which is not: the one number that can stand there. -/
theorem rd_of {b : List Int} {at_ : Nat} {p r : List Int} {x n next : Int} (h : b.drop at_ = p ++ x :: r) (hp : ∀ y ∈ p, isCont y) (hx : x ≤ 127) (hr : RD b at_ n next) :
    n = gval (p ++ [x]) ∧ next = at_ + p.length + 1 ∧ (p = [] ∨ x ≠ 0) := by
  obtain ⟨_, h1, h2, h3, t, h4⟩ := hr
  obtain ⟨q, y, e1, e2, e3, e4, e5, e6⟩ := enc_shape n.toNat
  rw [Int.toNat_natCast, h, e1] at h4
  have h5 : q ++ y :: t = p ++ x :: r := by rw [← h4]; simp
  obtain ⟨rfl, rfl⟩ := split_at q p y x t r e2 hp e4 hx h5
  refine ⟨by omega, ?_, e5⟩
  rw [h3, e1]
  simp
  omega
/-- If all bytes from the offset on that there are, or the first six, are followed, no varint stands there. -/
theorem rd_none {b : List Int} {at_ : Nat} {p r : List Int} (h : b.drop at_ = p ++ r) (hp : ∀ y ∈ p, isCont y) (hr : r = [] ∨ 6 ≤ p.length) : ∀ n next, ¬ RD b at_ n next := by
  intro n next hrd
  obtain ⟨_, h1, h2, h3, t, h4⟩ := hrd
  obtain ⟨q, y, e1, e2, e3, e4, e5, e6⟩ := enc_shape n.toNat
  have hlen := enc_length 5 n.toNat (by omega)
  rw [Int.toNat_natCast, h] at h4
  have hy : (enc n.toNat)[q.length]? = some y := by rw [e1]; simp
  have h6 : q.length < p.length := by
    rw [e1] at hlen h4
    simp at hlen
    rcases hr with rfl | hr
    · have := congrArg List.length h4
      simp at this
      omega
    · omega
  have h7 : p[q.length]? = some y := by
    have h8 : (enc n.toNat ++ t)[q.length]? = (p ++ r)[q.length]? := by rw [h4]
    rw [List.getElem?_append_left (by rw [e1]; simp), hy, List.getElem?_append_left h6] at h8
    exact h8.symm
  have := hp y (List.mem_of_getElem? h7)
  unfold isCont at this
  omega
theorem rd_yes {b : List Int} {at_ : Nat} {p r : List Int} {x : Int} (h : b.drop at_ = p ++ x :: r) (hp : ∀ y ∈ p, isCont y) (h0 : 0 ≤ x) (hx : x ≤ 127) (hz : p = [] ∨ x ≠ 0) (hm : gval (p ++ [x]) ≤ 1000000000000) :
    RD b at_ (gval (p ++ [x])) (at_ + p.length + 1) := by
  obtain ⟨e1, _⟩ := enc_groups p x hp h0 hx hz
  refine ⟨by omega, gval_nonneg _, hm, ?_, ?_⟩
  · rw [e1]; simp; omega
  · rw [e1, Int.toNat_natCast, h]
    exact ⟨r, by simp⟩
theorem rd_unique {b : List Int} {at_ n next n' next' : Int} (h : RD b at_ n next) (h' : RD b at_ n' next') : n = n' ∧ next = next' := by
  obtain ⟨a0, a1, a2, a3, t, a4⟩ := h
  obtain ⟨_, b1, b2, b3, s, b4⟩ := h'
  obtain ⟨p, x, e1, e2, e3, e4, e5, e6⟩ := enc_shape n.toNat
  obtain ⟨q, y, f1, f2, f3, f4, f5, f6⟩ := enc_shape n'.toNat
  have h5 : p ++ x :: t = q ++ y :: s := by
    have := a4.trans b4.symm
    rw [e1, f1] at this
    simpa using this
  obtain ⟨rfl, rfl⟩ := split_at p q x y t s e2 f2 e4 f4 h5
  have : n.toNat = n'.toNat := by omega
  exact ⟨by omega, by rw [a3, b3, this]⟩
theorem rdans_unique {b : List Int} {at_ n next n' next' : Int} {ok ok' : Bool} (h : RdAns b at_ n next ok) (h' : RdAns b at_ n' next' ok') : n' = n ∧ next' = next ∧ ok' = ok := by
  rcases h with ⟨rfl, h⟩ | ⟨rfl, rfl, rfl, h⟩
  · rcases h' with ⟨rfl, h'⟩ | ⟨rfl, rfl, rfl, h'⟩
    · obtain ⟨e1, e2⟩ := rd_unique h h'
      exact ⟨e1.symm, e2.symm, rfl⟩
    · exact absurd h (h' _ _)
  · rcases h' with ⟨rfl, h'⟩ | ⟨rfl, rfl, rfl, h'⟩
    · exact absurd h' (h _ _)
    · exact ⟨rfl, rfl, rfl⟩
theorem rd_next {b : List Int} {at_ n next : Int} (h : RD b at_ n next) : 0 ≤ next ∧ next ≤ b.length ∧ 0 ≤ n ∧ n ≤ 1000000000000 := by
  obtain ⟨a0, a1, a2, a3, t, a4⟩ := h
  have := congrArg List.length a4
  simp at this
  have hp : 0 < (enc n.toNat).length := by
    obtain ⟨p, x, e1, _⟩ := enc_shape n.toNat
    rw [e1]; simp
  omega
/-- What ReadBytes answers: the bytes, the offset behind them, true; or none, 0, false. -/
def RB (b : List Int) (at_ most : Int) (L : List Int) (nx : Int) (ok : Bool) : Prop :=
  (ok = true ∧ ∃ n next, RD b at_ n next ∧ n ≤ most ∧ n ≤ b.length - next ∧ L = (b.drop next.toNat).take n.toNat ∧ nx = next + n) ∨
  (ok = false ∧ L = [] ∧ nx = 0 ∧ ∀ n next, RD b at_ n next → ¬ (n ≤ most ∧ n ≤ b.length - next))
theorem rb_unique {b : List Int} {at_ most : Int} {L L' : List Int} {nx nx' : Int} {ok ok' : Bool} (h : RB b at_ most L nx ok) (h' : RB b at_ most L' nx' ok') : L' = L ∧ nx' = nx ∧ ok' = ok := by
  rcases h with ⟨rfl, n, next, h1, h2, h3, rfl, rfl⟩ | ⟨rfl, rfl, rfl, h⟩
  · rcases h' with ⟨rfl, n', next', k1, k2, k3, rfl, rfl⟩ | ⟨rfl, rfl, rfl, h'⟩
    · obtain ⟨rfl, rfl⟩ := rd_unique h1 k1
      exact ⟨rfl, rfl, rfl⟩
    · exact absurd ⟨h2, h3⟩ (h' n next h1)
  · rcases h' with ⟨rfl, n', next', k1, k2, k3, rfl, rfl⟩ | ⟨rfl, rfl, rfl, h'⟩
    · exact absurd ⟨k2, k3⟩ (h n' next' k1)
    · exact ⟨rfl, rfl, rfl⟩
theorem gval_snoc : ∀ (p : List Int) (x : Int), gval (p ++ [x]) = gval p + x % 128 * 128 ^ p.length
  | [], x => by simp only [List.nil_append, gval, List.length_nil, Int.pow_zero]; omega
  | y :: p, x => by
    have e : gval (y :: p ++ [x]) = y % 128 + 128 * gval (p ++ [x]) := rfl
    rw [e, gval_snoc p x, List.length_cons, Int.pow_succ]
    simp only [gval]
    rw [Int.mul_add, Int.mul_comm 128 (x % 128 * 128 ^ p.length), Int.mul_assoc]
    omega
theorem gval_lt : ∀ (p : List Int), gval p < 128 ^ p.length
  | [] => by simp [gval]
  | y :: p => by
    have := gval_lt p
    rw [List.length_cons, Int.pow_succ]
    simp only [gval]
    omega
theorem or_join (i j : Nat) (hj : j ≤ 63) (g G : Int) (h0 : 0 ≤ g) (h1 : g < 128) (h2 : 0 ≤ G) (h3 : G < 2 ^ i) (e0 : (2 : Int) ^ i * 128 ≤ 2 ^ j) (e1 : (2 : Int) ^ j ≤ 2 ^ 63) : bits .or .i64 G (g * 2 ^ i) = G + g * 2 ^ i := by
  have hp : (0 : Int) < 2 ^ i := Int.pow_pos (by decide)
  have m0 : 0 ≤ g * 2 ^ i := Int.mul_nonneg h0 (by omega)
  have m1 : g * 2 ^ i ≤ 127 * 2 ^ i := Int.mul_le_mul_of_nonneg_right (by omega) (by omega)
  have hc : bits .or .i64 G (g * 2 ^ i) = bits .or .i64 (g * 2 ^ i) G := by simp only [bits, BitVec.or_comm]
  rw [hc, bits_join .i64 j (by show j ≤ 64; omega) (fun n a b => by rw [IntKind.wrap_i64]; omega) i (g * 2 ^ i) G m0 (Int.mul_emod_left _ _) (by omega) h2 h3 (by omega)]
  omega
theorem read_step (z G : Int) (k : Nat) (hk : k ≤ 5) (h2 : 0 ≤ G) (h3 : G < 128 ^ k) : bits .or .i64 G (RowKit.wrap64 (bits .and .i64 z 127 * 2 ^ (7 * k))) = G + z % 128 * 128 ^ k := by
  rw [i64_and127]
  have g0 : 0 ≤ z % 128 := Int.emod_nonneg _ (by decide)
  have g1 : z % 128 < 128 := Int.emod_lt_of_pos _ (by decide)
  have hw : ∀ x : Int, 0 ≤ x → x < 9223372036854775808 → RowKit.wrap64 x = x := fun x a b => IntWalk.wrap64_in x ⟨by omega, by omega⟩
  have hcs : k = 0 ∨ k = 1 ∨ k = 2 ∨ k = 3 ∨ k = 4 ∨ k = 5 := by omega
  rcases hcs with rfl | rfl | rfl | rfl | rfl | rfl
  · rw [hw _ (by omega) (by omega)]; exact or_join 0 7 (by decide) _ G g0 g1 h2 (by simpa using h3) (by decide) (by decide)
  · rw [hw _ (by omega) (by omega)]; exact or_join 7 14 (by decide) _ G g0 g1 h2 (by simpa using h3) (by decide) (by decide)
  · rw [hw _ (by omega) (by omega)]; exact or_join 14 21 (by decide) _ G g0 g1 h2 (by simpa using h3) (by decide) (by decide)
  · rw [hw _ (by omega) (by omega)]; exact or_join 21 28 (by decide) _ G g0 g1 h2 (by simpa using h3) (by decide) (by decide)
  · rw [hw _ (by omega) (by omega)]; exact or_join 28 35 (by decide) _ G g0 g1 h2 (by simpa using h3) (by decide) (by decide)
  · rw [hw _ (by omega) (by omega)]; exact or_join 35 42 (by decide) _ G g0 g1 h2 (by simpa using h3) (by decide) (by decide)
end Go.Proofs.Ytffjolonpkhmoaa
