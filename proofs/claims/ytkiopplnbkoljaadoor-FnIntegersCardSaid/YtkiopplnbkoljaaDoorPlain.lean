/-
  Plain facts on decimal texts: which byte lists are the decimal form of a number from 0 to 1000000000000, and that strconv.Atoi's plain function and a left-to-right fold read them back.
-/
import Derived.Lib.ItoaMem
import Derived.Lib.AtoiAll
namespace Go.Proofs.YtkiopplnbkoljaaDoor

theorem dig_byte (d : Nat) (h : d < 10) : (UInt8.ofNat (48 + d)).toNat = 48 + d := by
  rw [UInt8.toNat_ofNat']; omega

/-- A digit's byte. -/
def isDig (c : UInt8) : Prop := 48 ≤ c.toNat ∧ c.toNat ≤ 57

theorem decDigits_all (u : Nat) : ∀ c ∈ Lib.decDigits u, isDig c := by
  induction u using Nat.strongRecOn with
  | _ u ih =>
    intro c hc
    by_cases h : u < 10
    · rw [Lib.decDigits_one h] at hc
      simp only [List.mem_singleton] at hc
      subst hc
      unfold isDig
      rw [dig_byte u h]; omega
    · rw [Lib.decDigits, dif_neg h] at hc
      rcases List.mem_append.1 hc with h1 | h1
      · exact ih (u / 10) (by omega) c h1
      · simp only [List.mem_singleton] at h1
        subst h1
        unfold isDig
        rw [dig_byte _ (by omega)]; omega

theorem decDigits_ne (u : Nat) : Lib.decDigits u ≠ [] := by
  intro h
  have h1 := Lib.decDigits_length u
  have h2 := Lib.nDigits_pos u
  rw [h] at h1
  simp at h1
  omega

theorem parse_digits (u : Nat) : u ≤ 10000000000000 → ∀ r, Lib.parseUint10 0 (Lib.decDigits u ++ r) = Lib.parseUint10 u r := by
  induction u using Nat.strongRecOn with
  | _ u ih =>
    intro hu r
    by_cases h : u < 10
    · rw [Lib.decDigits_one h]
      simp only [List.cons_append, List.nil_append, Lib.parseUint10, dig_byte u h]
      rw [if_pos (by omega), if_neg (by omega), if_neg (by omega)]
      congr 1
      omega
    · rw [Lib.decDigits, dif_neg h, List.append_assoc, ih (u / 10) (by omega) (by omega)]
      simp only [List.cons_append, List.nil_append, Lib.parseUint10, dig_byte (u % 10) (by omega)]
      rw [if_pos (by omega), if_neg (by omega), if_neg (by omega)]
      congr 1
      omega

theorem atoi_digits (u : Nat) (hu : u ≤ 10000000000000) : Lib.atoiAll (Lib.decDigits u) = .ok (u : Int) := by
  have h1 := parse_digits u hu []
  have h2 := decDigits_all u
  have h3 := decDigits_ne u
  rw [List.append_nil] at h1
  generalize Lib.decDigits u = l at h1 h2 h3
  match l, h1, h2, h3 with
  | c :: r, h1, h2, _ =>
    have hc := h2 c (List.mem_cons_self ..)
    unfold isDig at hc
    unfold Lib.atoiAll
    simp only
    rw [if_neg (show ¬ (c.toNat = 43 ∨ c.toNat = 45) by omega)]
    unfold Lib.parseMag
    rw [if_neg (by simp), h1]
    simp only [Lib.parseUint10]
    rw [if_neg (by omega), if_neg (by omega), if_neg (by omega)]

/-- l is the decimal form of v, and v lies in 0 .. MaxValue. -/
def canon (l : List UInt8) (v : Int) : Prop := 0 ≤ v ∧ v ≤ 1000000000000 ∧ Lib.itoa v = l

theorem canon_nat {l : List UInt8} {v : Int} (h : canon l v) : ∃ u : Nat, v = (u : Int) ∧ u ≤ 1000000000000 ∧ l = Lib.decDigits u := by
  obtain ⟨h0, h1, h2⟩ := h
  obtain ⟨u, rfl⟩ : ∃ u : Nat, v = (u : Int) := ⟨v.toNat, by omega⟩
  rw [Lib.itoa_nonneg] at h2
  exact ⟨u, rfl, by omega, h2.symm⟩
theorem canon_atoi {l : List UInt8} {v : Int} (h : canon l v) : Lib.atoiAll l = .ok v := by
  obtain ⟨u, rfl, h1, rfl⟩ := canon_nat h
  exact atoi_digits u (by omega)

/-- What a row of digits spells. -/
def val (l : List UInt8) : Nat := l.foldl (fun a c => 10 * a + (c.toNat - 48)) 0
theorem val_snoc (l : List UInt8) (c : UInt8) : val (l ++ [c]) = 10 * val l + (c.toNat - 48) := by
  unfold val; rw [List.foldl_append]; rfl
theorem val_digits (u : Nat) : val (Lib.decDigits u) = u := by
  induction u using Nat.strongRecOn with
  | _ u ih =>
    by_cases h : u < 10
    · rw [Lib.decDigits_one h]
      show 10 * 0 + ((UInt8.ofNat (48 + u)).toNat - 48) = u
      rw [dig_byte u h]; omega
    · rw [Lib.decDigits, dif_neg h, val_snoc, ih (u / 10) (by omega), dig_byte (u % 10) (by omega)]
      omega
theorem canon_val {l : List UInt8} {v : Int} (h : canon l v) : v = (val l : Nat) := by
  obtain ⟨u, rfl, h1, rfl⟩ := canon_nat h
  rw [val_digits]
theorem canon_dig {l : List UInt8} {v : Int} (h : canon l v) : ∀ c ∈ l, isDig c := by
  obtain ⟨u, rfl, h1, rfl⟩ := canon_nat h
  exact decDigits_all u
theorem nDigits_le : ∀ (j m : Nat), m < 10 ^ (j + 1) → Lib.nDigits m ≤ j + 1 := by
  intro j
  induction j with
  | zero => intro m hm; rw [Lib.nDigits_small (by simpa using hm)]; omega
  | succ j ih =>
    intro m hm
    by_cases hs : m < 10
    · rw [Lib.nDigits_small hs]; omega
    · rw [Lib.nDigits_big hs]
      have := ih (m / 10) (by rw [Nat.pow_succ] at hm; omega)
      omega
theorem canon_length {l : List UInt8} {v : Int} (h : canon l v) : 1 ≤ l.length ∧ l.length ≤ 13 := by
  obtain ⟨u, rfl, h1, rfl⟩ := canon_nat h
  rw [Lib.decDigits_length]
  exact ⟨Lib.nDigits_pos u, nDigits_le 12 u (by omega)⟩
theorem canon_one {l : List UInt8} {v v' : Int} (h : canon l v) (h' : canon l v') : v = v' := by rw [canon_val h, canon_val h']
/-- k digits spell less than 10 to the k. -/
theorem val_lt : ∀ (k : Nat) (l : List UInt8), l.length = k → (∀ c ∈ l, isDig c) → val l < 10 ^ k := by
  intro k
  induction k with
  | zero => intro l hl _; rw [List.length_eq_zero_iff.1 hl]; decide
  | succ k ih =>
    intro l hl hd
    have hne : l ≠ [] := by intro h; rw [h] at hl; simp at hl
    have e : l = l.dropLast ++ [l.getLast hne] := (List.dropLast_concat_getLast hne).symm
    have h1 := ih l.dropLast (by rw [List.length_dropLast]; omega) (fun c hc => hd c (List.dropLast_subset l hc))
    have h2 := hd _ (List.getLast_mem hne)
    unfold isDig at h2
    rw [e, val_snoc, Nat.pow_succ]
    omega
end Go.Proofs.YtkiopplnbkoljaaDoor
