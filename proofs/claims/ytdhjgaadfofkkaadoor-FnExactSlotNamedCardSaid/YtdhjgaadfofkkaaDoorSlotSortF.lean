/-
  The stable sort of slots, sixth part: what symMerge's search finds.
-/
import Derived.Test.YtdhjgaadfofkkaaDoorSlotSortE
namespace Go.Proofs.YtdhjgaadfofkkaaDoor
open Go.RowKit Go.Sort

def symF (L : List SlotV) (p : Nat) (c : Nat) : Bool := ltS (L.getD (p - c) none_Slot) (L.getD c none_Slot)
/-- Where the search of symMerge goes. -/
def SymR (a k b mid p s0 r0 : Nat) : Prop := a ≤ s0 ∧ s0 ≤ r0 ∧ r0 ≤ k ∧ p + 1 = mid + k ∧ mid + k ≤ b + s0 ∧ k + r0 ≤ mid + k ∧ mid ≤ b ∧ a ≤ mid ∧ (s0 = a ∨ mid + k = b + s0) ∧ (r0 = k ∨ r0 = mid)
theorem symR_left {a k b mid p s0 : Nat} (h1 : a + 2 ≤ k) (_h2 : k + 2 ≤ b) (hm : mid = (a + b) / 2) (hk : mid < k) (hs : s0 + b = mid + k) (hp : p + 1 = mid + k) : SymR a k b mid p s0 mid := by
  unfold SymR
  omega
theorem symR_right {a k b mid p : Nat} (h1 : a + 2 ≤ k) (_h2 : k + 2 ≤ b) (hm : mid = (a + b) / 2) (hk : ¬ mid < k) (hp : p + 1 = mid + k) : SymR a k b mid p a k := by
  unfold SymR
  omega
theorem sym_get {P A B S : List SlotV} {a k b : Nat} (ha : P.length = a) (hk : a + A.length = k) (hb : k + B.length = b) :
    (∀ c, a ≤ c → c < k → (P ++ A ++ B ++ S).getD c none_Slot = A.getD (c - a) none_Slot) ∧ (∀ c, k ≤ c → c < b → (P ++ A ++ B ++ S).getD c none_Slot = B.getD (c - k) none_Slot) := by
  refine ⟨fun c h1 h2 => ?_, fun c h1 h2 => getD_in2 (P ++ A) B S (by simp; omega) h1 (by omega)⟩
  have h3 := getD_in2 P A (B ++ S) ha h1 (by omega)
  rwa [← List.append_assoc] at h3
theorem sym_mono {P A B S : List SlotV} {a k b mid p s0 r0 : Nat} (ha : P.length = a) (hk : a + A.length = k) (hb : k + B.length = b) (hA : A.Pairwise leS) (hB : B.Pairwise leS) (hr : SymR a k b mid p s0 r0) : Mono (symF (P ++ A ++ B ++ S) p) s0 r0 := by
  obtain ⟨h1, h2⟩ := sym_get (S := S) ha hk hb
  unfold SymR at hr
  intro c d hc hcd hd h
  unfold symF at h ⊢
  rw [h1 c (by omega) (by omega), h2 (p - c) (by omega) (by omega)] at h
  rw [h1 d (by omega) (by omega), h2 (p - d) (by omega) (by omega)]
  have e1 := sorted_getD hA (show c - a ≤ d - a by omega) (by omega)
  have e2 := sorted_getD hB (show p - d - k ≤ p - c - k by omega) (by omega)
  rw [ltS_iff] at h ⊢
  unfold leS at e1 e2
  omega
/-- What the search has found: the two parts, each divided. -/
def SymCut (A B A1 A2 B1 B2 : List SlotV) : Prop := A = A1 ++ A2 ∧ B = B1 ++ B2 ∧ (∀ x ∈ A2, ∀ y ∈ B1, ltS y x = true) ∧ (∀ x ∈ A1, ∀ y ∈ B2, leS x y)
theorem sym_found {P A B S : List SlotV} {a k b mid p s0 r0 s e : Nat} (ha : P.length = a) (hk : a + A.length = k) (hb : k + B.length = b) (hA : A.Pairwise leS) (hB : B.Pairwise leS) (hr : SymR a k b mid p s0 r0) (he : e + s = mid + k) (h : BinInv (symF (P ++ A ++ B ++ S) p) s0 r0 s s) :
    a ≤ s ∧ s ≤ k ∧ k ≤ e ∧ e ≤ b ∧ ∃ A1 A2 B1 B2, SymCut A B A1 A2 B1 B2 ∧ a + A1.length = s ∧ k + B1.length = e := by
  obtain ⟨h1, h2⟩ := sym_get (S := S) ha hk hb
  obtain ⟨a1, -, a3, a4, a5⟩ := h
  unfold SymR at hr
  have b1 : a ≤ s := by omega
  have b2 : s ≤ k := by omega
  have b3 : k ≤ e := by omega
  have b4 : e ≤ b := by omega
  refine ⟨b1, b2, b3, b4, A.take (s - a), A.drop (s - a), B.take (e - k), B.drop (e - k), ⟨(List.take_append_drop _ _).symm, (List.take_append_drop _ _).symm, fun x hx y hy => ?_, fun x hx y hy => ?_⟩, by rw [List.length_take]; omega, by rw [List.length_take]; omega⟩
  · obtain ⟨c, hc1, hc2, rfl⟩ := mem_drop_getD hx
    obtain ⟨d, hd1, hd2, rfl⟩ := mem_take_getD hy
    have hs : s < r0 := by omega
    have h9 := a5 s (Nat.le_refl _) hs
    unfold symF at h9
    rw [h1 s (by omega) (by omega), h2 (p - s) (by omega) (by omega), ltS_iff] at h9
    have e1 := sorted_getD hA (show s - a ≤ c by omega) hc2
    have e2 := sorted_getD hB (show d ≤ p - s - k by omega) (by omega)
    rw [ltS_iff]
    unfold leS at e1 e2
    omega
  · obtain ⟨c, hc1, hc2, rfl⟩ := mem_take_getD hx
    obtain ⟨d, hd1, hd2, rfl⟩ := mem_drop_getD hy
    have hs : s0 < s := by omega
    have h9 := a4 (s - 1) (by omega) (by omega)
    unfold symF at h9
    rw [h1 (s - 1) (by omega) (by omega), h2 (p - (s - 1)) (by omega) (by omega)] at h9
    have h8 := ltS_not h9
    have e1 := sorted_getD hA (show c ≤ s - 1 - a by omega) (by omega)
    have e2 := sorted_getD hB (show p - (s - 1) - k ≤ d by omega) hd2
    unfold leS at e1 e2 h8 ⊢
    omega
theorem symCut_bub {A B A1 A2 B1 B2 : List SlotV} (h : SymCut A B A1 A2 B1 B2) : Bub ltS (A ++ B) (A1 ++ B1 ++ A2 ++ B2) := by
  obtain ⟨rfl, rfl, h1, -⟩ := h
  have h5 := (Bub.block (lt := ltS) A2 B1 h1).ctx A1 B2
  simpa using h5
/-- The two halves, each merged, make the whole. -/
theorem symCut_end {A B A1 A2 B1 B2 M1 M2 : List SlotV} (h : SymCut A B A1 A2 B1 B2) (hA : A.Pairwise leS) (hB : B.Pairwise leS) (h1 : M1.Pairwise leS) (h2 : M2.Pairwise leS) (b1 : Bub ltS (A1 ++ B1) M1) (b2 : Bub ltS (A2 ++ B2) M2) : (M1 ++ M2).Pairwise leS ∧ Bub ltS (A ++ B) (M1 ++ M2) := by
  have hb := symCut_bub h
  obtain ⟨rfl, rfl, h3, h4⟩ := h
  rw [List.pairwise_append] at hA hB
  constructor
  · rw [List.pairwise_append]
    refine ⟨h1, h2, fun x hx y hy => ?_⟩
    have hx := b1.perm.mem_iff.2 hx
    have hy := b2.perm.mem_iff.2 hy
    rcases List.mem_append.1 hx with hx | hx <;> rcases List.mem_append.1 hy with hy | hy
    · exact hA.2.2 x hx y hy
    · exact h4 x hx y hy
    · have := ltS_iff.1 (h3 y hy x hx)
      unfold leS
      omega
    · exact hB.2.2 x hx y hy
  · refine hb.trans ?_
    have h5 := b1.ctx [] (A2 ++ B2)
    have h6 := b2.ctx M1 []
    simp only [List.nil_append, List.append_nil, ← List.append_assoc] at h5 h6
    exact h5.trans h6
end Go.Proofs.YtdhjgaadfofkkaaDoor
