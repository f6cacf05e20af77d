/-
  The model's contracts of chapter 8, third part: CellsOf, l8Has, SlotsAt.
-/
import Derived.Test.YtdhjgaadfofkkaaDoorSlotSpecB
import Derived.BigQuiet
import Derived.Deep.RegionWith
namespace Go.Proofs.YtdhjgaadfofkkaaDoor
open Go.RowKit

/-- What is known of a slot of SlotsOf. -/
def SlotAt (r c : Nat) (s : ByteArray) (k : Nat) (x : SlotV) : Prop :=
  ∃ m : Nat, m < k ∧ x.2.2.1 = m ∧ 1 ≤ x.1 ∧ (x.2.1 = false → x.2.2.2 = (acN c s m : Nat) ∧ 2 ≤ acN c s m) ∧ (x.2.1 = true → x.2.2.2 = (dnN r c s m : Nat) ∧ 2 ≤ dnN r c s m)
theorem stepSl_mem {x : Nat × List SlotV} {k a d : Nat} {y : SlotV} (h : y ∈ (stepSl x k a d).2) : y ∈ x.2 ∨ (2 ≤ a ∧ y = (((x.1 + 1 : Nat) : Int), false, (k : Int), (a : Int))) ∨ (2 ≤ d ∧ y = (((x.1 + 1 : Nat) : Int), true, (k : Int), (d : Int))) := by
  unfold stepSl at h
  rw [List.mem_append, List.mem_append] at h
  rcases h with (h | h) | h
  · exact .inl h
  · split at h
    · rename_i ha
      rw [if_pos (.inl ha)] at h
      exact .inr (.inl ⟨ha, List.mem_singleton.1 h⟩)
    · cases h
  · split at h
    · rename_i hd
      rw [if_pos (.inr hd)] at h
      exact .inr (.inr ⟨hd, List.mem_singleton.1 h⟩)
    · cases h
theorem slTo_mem (r c : Nat) (s : ByteArray) : ∀ k, ∀ x ∈ (slTo r c s k).2, SlotAt r c s k x
  | 0 => fun x hx => by cases hx
  | k + 1 => fun x hx => by
    rcases stepSl_mem hx with h | ⟨h2, rfl⟩ | ⟨h2, rfl⟩
    · obtain ⟨m, h1, h2, h3⟩ := slTo_mem r c s k x h
      exact ⟨m, by omega, h2, h3⟩
    · exact ⟨k, by omega, rfl, by show (1 : Int) ≤ ((_ + 1 : Nat) : Int); omega, fun _ => ⟨rfl, h2⟩, fun e => by cases e⟩
    · exact ⟨k, by omega, rfl, by show (1 : Int) ≤ ((_ + 1 : Nat) : Int); omega, (fun e => by cases e), fun _ => ⟨rfl, h2⟩⟩
theorem slTo_pw (r c : Nat) (s : ByteArray) : ∀ k, (slTo r c s k).2.Pairwise befS
  | 0 => List.Pairwise.nil
  | k + 1 => by
    show (stepSl (slTo r c s k) k (acN c s k) (dnN r c s k)).2.Pairwise befS
    have h1 := slTo_pw r c s k
    have h2 := slTo_mem r c s k
    obtain ⟨y, hy⟩ : ∃ y, y = slTo r c s k := ⟨_, rfl⟩
    rw [← hy] at h1 h2 ⊢
    have h3 : ∀ x ∈ y.2, x.2.2.1 < (k : Int) := fun x hx => by
      obtain ⟨m, e1, e2, -⟩ := h2 x hx
      omega
    unfold stepSl
    rw [List.pairwise_append, List.pairwise_append]
    refine ⟨⟨h1, ?_, fun x hx z hz => ?_⟩, ?_, fun x hx z hz => ?_⟩
    · split
      · exact List.pairwise_singleton ..
      · exact List.Pairwise.nil
    · split at hz
      · obtain rfl := List.mem_singleton.1 hz
        exact .inl (h3 x hx)
      · cases hz
    · split
      · exact List.pairwise_singleton ..
      · exact List.Pairwise.nil
    · have ez : z.2.2.1 = (k : Int) ∧ z.2.1 = true := by
        split at hz
        · obtain rfl := List.mem_singleton.1 hz
          exact ⟨rfl, rfl⟩
        · cases hz
      rcases List.mem_append.1 hx with h | h
      · exact .inl (by rw [ez.1]; exact h3 x h)
      · split at h
        · obtain rfl := List.mem_singleton.1 h
          exact .inr ⟨ez.1.symm, rfl, ez.2⟩
        · cases h
theorem slG_cases (g : Int × Int × ByteArray) : slG g = [] ∨ ∃ R C : Nat, isG g = true ∧ g.1 = R ∧ g.2.1 = C ∧ 2 ≤ R ∧ R ≤ 6 ∧ 2 ≤ C ∧ C ≤ 6 ∧ g.2.2.size = R * C ∧ g.2.2.size ≤ 36 ∧ slG g = (slTo R C g.2.2 (R * C)).2 := by
  obtain ⟨r, c, s⟩ := g
  by_cases h : isG (r, c, s) = true
  · right
    obtain ⟨R, C, rfl, rfl, h1, h2, h3, h4, h5, h6⟩ := isG_nat h
    exact ⟨R, C, h, rfl, rfl, h1, h2, h3, h4, h5, h6, by unfold slG; rw [if_pos h]; rfl⟩
  · left
    unfold slG
    rw [if_neg h]
theorem slG_pw (g : Int × Int × ByteArray) : (slG g).Pairwise befS := by
  rcases slG_cases g with h | ⟨R, C, -, -, -, -, -, -, -, -, -, h⟩
  · rw [h]; exact List.Pairwise.nil
  · rw [h]; exact slTo_pw ..
theorem slG_nodup (g : Int × Int × ByteArray) : (slG g).Nodup :=
  (slG_pw g).imp (fun {x y} h e => by subst e; exact befS_irr x x h h)
theorem slG_length (g : Int × Int × ByteArray) : (slG g).length ≤ 72 := by
  rcases slG_cases g with h | ⟨R, C, -, -, -, -, -, -, -, h1, h2, h⟩
  · rw [h]; decide
  · have := (slTo_bound R C g.2.2 (R * C)).2
    rw [h]
    omega
/-- A slot of SlotsOf has small numbers. -/
theorem slG_small {g : Int × Int × ByteArray} {x : SlotV} (h : x ∈ slG g) : isG g = true ∧ (2 ≤ g.2.1 ∧ g.2.1 ≤ 6) ∧ (0 ≤ x.2.2.1 ∧ x.2.2.1 < 36) ∧ (2 ≤ x.2.2.2 ∧ x.2.2.2 ≤ 6) ∧ 1 ≤ x.1 := by
  rcases slG_cases g with h0 | ⟨R, C, hg, e1, e2, h1, h2, h3, h4, h5, h6, h7⟩
  · rw [h0] at h; cases h
  · rw [h7] at h
    obtain ⟨m, hm, e3, h9, ha, hd⟩ := slTo_mem _ _ _ _ _ h
    refine ⟨hg, by omega, by omega, ?_, h9⟩
    rcases hx : x.2.1 with _ | _
    · obtain ⟨e4, h8⟩ := ha hx
      have := acN_le C g.2.2 m
      omega
    · obtain ⟨e4, h8⟩ := hd hx
      have := dnN_le R C g.2.2 m
      omega
/-- The cells of a slot, c columns. -/
def cellsS (c : Int) (x : SlotV) : List Int := (List.range x.2.2.2.toNat).map fun (k : Nat) => x.2.2.1 + (k : Int) * (if x.2.1 = true then c else 1)
/-- What CellsOf answers. -/
def clG (g : Int × Int × ByteArray) (x : SlotV) : List Int := if x ∈ slG g then cellsS g.2.1 x else []
/-- What l8Has answers. -/
def hasI (l : List Int) (n : Int) : Bool := l.any fun y => decide (y = n)
theorem hasI_iff {l : List Int} {n : Int} : hasI l n = true ↔ n ∈ l := by
  unfold hasI
  rw [List.any_eq_true]
  constructor
  · rintro ⟨y, hy, h⟩
    rw [← of_decide_eq_true h]
    exact hy
  · exact fun h => ⟨n, h, by simp⟩
end Go.Proofs.YtdhjgaadfofkkaaDoor
