/-
  Plain facts on fills.
-/
import Derived.Test.YthgnhcjbjdhjfaaGreatDoorCrossPure
import Derived.Test.YthgnhcjbjdhjfaaGreatDoorPatB
namespace Go.Proofs.YthgnhcjbjdhjfaaGreatDoor
open Go.RowKit

/-- May a cell have this byte in a fill? -/
def okF (c f : UInt8) : Bool := if c = 35 then decide (f = 35) else decide (isPL f)
/-- The byte of a cell without a letter. -/
def emB (c : UInt8) : UInt8 := if c = 35 then 35 else 63
/-- What IsFill answers. -/
def isF (g : Int × Int × ByteArray) (f : ByteArray) : Bool := isG g && decide (f.size = g.2.2.size ∧ ∀ i, i < f.size → okF (g.2.2.data.toList.getD i 0) (f.data.toList.getD i 0) = true)
/-- What EmptyFill answers. -/
def emF (g : Int × Int × ByteArray) : ByteArray := if isG g = true then ⟨(g.2.2.data.toList.map emB).toArray⟩ else ⟨#[]⟩
/-- The bytes of some cells. -/
def patL (F : List UInt8) (Z : List Int) : List UInt8 := Z.map fun q => F.getD q.toNat 0
/-- What SlotPattern answers. -/
def patF (g : Int × Int × ByteArray) (f : ByteArray) (k : Int) : ByteArray := if isF g f = true ∧ 0 ≤ k ∧ k < ((slG g).length : Int) then ⟨(patL f.data.toList (cellsS g.2.1 ((slG g).getD k.toNat none_Slot))).toArray⟩ else ⟨#[]⟩
/-- A fill's bytes, the first j letters of a word put into cells. -/
def putTo (F : List UInt8) (Z : List Int) (W : List UInt8) : Nat → List UInt8
  | 0 => F
  | j + 1 => (putTo F Z W j).set (Z.getD j 0).toNat (W.getD j 0)
def putS (g : Int × Int × ByteArray) (f : ByteArray) (k : Int) (w : ByteArray) : ByteArray := ⟨(putTo f.data.toList (cellsS g.2.1 ((slG g).getD k.toNat none_Slot)) w.data.toList (cellsS g.2.1 ((slG g).getD k.toNat none_Slot)).length).toArray⟩
/-- What PutWord answers. -/
def putF (g : Int × Int × ByteArray) (f : ByteArray) (k : Int) (w : ByteArray) : ByteArray × Bool := if fitsP (patF g f k) w = true then (putS g f k w, true) else (f, false)
/-- Is there a place without a letter? -/
def opn (s : ByteArray) : Bool := decide ((63 : UInt8) ∈ s.data.toList)
/-- What IsFull answers. -/
def fullF (g : Int × Int × ByteArray) (f : ByteArray) : Bool := isF g f && !opn f
def wordsTo (g : Int × Int × ByteArray) (f : ByteArray) (n : Nat) : List ByteArray := ((List.range n).map fun (i : Nat) => patF g f (i : Int)).filter fun s => !opn s
/-- What WordsIn answers. -/
def wordsF (g : Int × Int × ByteArray) (f : ByteArray) : List ByteArray := if isF g f = true then wordsTo g f (slG g).length else []
theorem wordsTo_next (g : Int × Int × ByteArray) (f : ByteArray) (n : Nat) : wordsTo g f (n + 1) = wordsTo g f n ++ if opn (patF g f (n : Int)) = true then [] else [patF g f (n : Int)] := by
  unfold wordsTo
  rw [List.range_succ, List.map_append, List.filter_append]
  congr 1
  cases h : opn (patF g f (n : Int)) <;> simp [h]
theorem wordsTo_length (g : Int × Int × ByteArray) (f : ByteArray) (n : Nat) : (wordsTo g f n).length ≤ n := by
  refine Nat.le_trans (List.length_filter_le _ _) ?_
  rw [List.length_map, List.length_range]
  exact Nat.le_refl _
theorem wordsF_length (g : Int × Int × ByteArray) (f : ByteArray) : (wordsF g f).length ≤ 72 := by
  unfold wordsF
  split
  · exact Nat.le_trans (wordsTo_length ..) (slG_length g)
  · exact Nat.zero_le _

theorem isF_parts {g : Int × Int × ByteArray} {f : ByteArray} (h : isF g f = true) : isG g = true ∧ f.size = g.2.2.size ∧ f.size ≤ 36 ∧ ∀ i, i < f.size → okF (g.2.2.data.toList.getD i 0) (f.data.toList.getD i 0) = true := by
  unfold isF at h
  rw [Bool.and_eq_true] at h
  obtain ⟨h1, h2⟩ := h
  obtain ⟨h3, h4⟩ := of_decide_eq_true h2
  exact ⟨h1, h3, by have := isG_size h1; omega, h4⟩
theorem isF_of {g : Int × Int × ByteArray} {f : ByteArray} (h1 : isG g = true) (h2 : f.size = g.2.2.size) (h3 : ∀ i, i < f.size → okF (g.2.2.data.toList.getD i 0) (f.data.toList.getD i 0) = true) : isF g f = true := by
  unfold isF
  rw [h1, decide_eq_true (And.intro h2 h3)]
  rfl
theorem arr_size (l : List UInt8) : (⟨l.toArray⟩ : ByteArray).size = l.length := by
  show l.toArray.size = _
  simp
/-- The cells of a slot are white cells of the grid. -/
theorem cells_whF {g : Int × Int × ByteArray} {x : SlotV} (h : x ∈ slG g) {q : Int} (hq : q ∈ cellsS g.2.1 x) : ∃ n : Nat, q = n ∧ n < g.2.2.size ∧ g.2.2.data.toList.getD n 0 = 46 := by
  unfold cellsS at hq
  obtain ⟨k, hk, rfl⟩ := List.mem_map.1 hq
  rw [List.mem_range] at hk
  have h9 := slot_white h k hk
  obtain ⟨q, hqe⟩ : ∃ q, q = x.2.2.1 + (k : Int) * (if x.2.1 = true then g.2.1 else 1) := ⟨_, rfl⟩
  rw [← hqe] at h9 ⊢
  unfold isWh at h9
  rw [Bool.and_eq_true, Bool.and_eq_true] at h9
  obtain ⟨⟨-, h1⟩, h2⟩ := h9
  have h3 := of_decide_eq_true h1
  exact ⟨q.toNat, by omega, by omega, of_decide_eq_true h2⟩
theorem putTo_length (F : List UInt8) (Z : List Int) (W : List UInt8) : ∀ j, (putTo F Z W j).length = F.length
  | 0 => rfl
  | j + 1 => by unfold putTo; rw [List.length_set, putTo_length F Z W j]
theorem getD_set (l : List UInt8) (i k : Nat) (b : UInt8) : (l.set i b).getD k 0 = if i = k ∧ k < l.length then b else l.getD k 0 := by
  rw [List.getD_eq_getElem?_getD, List.getD_eq_getElem?_getD, List.getElem?_set]
  by_cases h : i = k
  · subst h
    rw [if_pos rfl]
    by_cases h2 : i < l.length
    · rw [if_pos h2, if_pos ⟨rfl, h2⟩]; rfl
    · rw [if_neg h2, if_neg (fun h => h2 h.2), List.getElem?_eq_none (by omega)]
  · rw [if_neg h, if_neg (fun h2 => h h2.1)]
theorem putTo_out (F : List UInt8) (Z : List Int) (W : List UInt8) (i : Nat) : ∀ j, (∀ p, p < j → (Z.getD p 0).toNat ≠ i) → (putTo F Z W j).getD i 0 = F.getD i 0
  | 0, _ => rfl
  | j + 1, h => by
    unfold putTo
    rw [getD_set, if_neg (fun h2 => h j (by omega) h2.1)]
    exact putTo_out F Z W i j (fun p hp => h p (by omega))
theorem getD_mem2 {l : List Int} {k : Nat} (h : k < l.length) : l.getD k 0 ∈ l := by
  rw [List.getD_eq_getElem?_getD, List.getElem?_eq_getElem h]
  exact List.getElem_mem h
theorem putTo_in (F : List UInt8) (Z : List Int) (W : List UInt8) (hn : Z.Nodup) (hz : ∀ q ∈ Z, 0 ≤ q ∧ q.toNat < F.length) (p : Nat) : ∀ j, p < j → j ≤ Z.length → (putTo F Z W j).getD (Z.getD p 0).toNat 0 = W.getD p 0
  | 0, h, _ => by omega
  | j + 1, h, hj => by
    have hp := hz _ (getD_mem2 (show p < Z.length by omega))
    have hj2 := hz _ (getD_mem2 (show j < Z.length by omega))
    unfold putTo
    rw [getD_set, putTo_length]
    by_cases he : p = j
    · subst he
      rw [if_pos ⟨rfl, hp.2⟩]
    · rw [if_neg, putTo_in F Z W hn hz p j (by omega) (by omega)]
      rintro ⟨h2, -⟩
      have e : Z.getD j 0 = Z.getD p 0 := by omega
      rw [List.getD_eq_getElem?_getD, List.getD_eq_getElem?_getD, List.getElem?_eq_getElem (by omega), List.getElem?_eq_getElem (by omega)] at e
      exact he ((List.getElem_inj hn).1 (show Z[p] = Z[j] from e.symm))
/-- A byte that is put, or one that stays. -/
theorem putTo_cases (F : List UInt8) (Z : List Int) (W : List UInt8) (hn : Z.Nodup) (hz : ∀ q ∈ Z, 0 ≤ q ∧ q.toNat < F.length) (i : Nat) : (∃ p, p < Z.length ∧ (Z.getD p 0).toNat = i ∧ (putTo F Z W Z.length).getD i 0 = W.getD p 0) ∨ ((∀ p, p < Z.length → (Z.getD p 0).toNat ≠ i) ∧ (putTo F Z W Z.length).getD i 0 = F.getD i 0) := by
  by_cases h : ∃ p, p < Z.length ∧ (Z.getD p 0).toNat = i
  · obtain ⟨p, hp, rfl⟩ := h
    exact .inl ⟨p, hp, rfl, putTo_in F Z W hn hz p _ hp (Nat.le_refl _)⟩
  · have h2 : ∀ p, p < Z.length → (Z.getD p 0).toNat ≠ i := fun p hp e => h ⟨p, hp, e⟩
    exact .inr ⟨h2, putTo_out F Z W i _ h2⟩
theorem patL_length (F : List UInt8) (Z : List Int) : (patL F Z).length = Z.length := List.length_map ..
theorem patL_at (F : List UInt8) (Z : List Int) {p : Nat} (h : p < Z.length) : (patL F Z).getD p 0 = F.getD (Z.getD p 0).toNat 0 := by
  unfold patL
  rw [List.getD_eq_getElem?_getD, List.getElem?_map, List.getElem?_eq_getElem h, List.getD_eq_getElem?_getD (l := Z), List.getElem?_eq_getElem h]
  rfl
theorem list_ext8 {a b : List UInt8} (h : a.length = b.length) (h2 : ∀ i, i < a.length → a.getD i 0 = b.getD i 0) : a = b := by
  refine List.ext_getElem h fun i h3 h4 => ?_
  have h5 := h2 i h3
  rw [List.getD_eq_getElem?_getD, List.getD_eq_getElem?_getD, List.getElem?_eq_getElem h3, List.getElem?_eq_getElem h4] at h5
  exact h5
theorem fits_parts {p s : ByteArray} (h : fitsP p s = true) : isP p = true ∧ isW s = true ∧ p.size = s.size ∧ ∀ k, k < p.size → fitAt p s k := by
  unfold fitsP at h
  rw [Bool.and_eq_true, Bool.and_eq_true] at h
  obtain ⟨⟨h1, h2⟩, h3⟩ := h
  exact ⟨h1, h2, of_decide_eq_true h3⟩
theorem fits_of {p s : ByteArray} (h1 : isP p = true) (h2 : isW s = true) (h3 : p.size = s.size) (h4 : ∀ k, k < p.size → fitAt p s k) : fitsP p s = true := by
  unfold fitsP
  rw [h1, h2, decide_eq_true (And.intro h3 h4)]
  rfl
theorem isW_at {s : ByteArray} (h : isW s = true) {k : Nat} (hk : k < s.size) : isL (s.data.toList.getD k 0) := by
  rw [getD_byte s k hk]
  exact (of_decide_eq_true h).2.2 _ (byte_mem s k hk)
theorem isW_isP {s : ByteArray} (h : isW s = true) : isP s = true := by
  obtain ⟨h1, h2, h3⟩ := of_decide_eq_true h
  exact decide_eq_true ⟨h1, h2, fun b hb => .inr (h3 b hb)⟩
theorem fits_self {s : ByteArray} (h : isW s = true) : fitsP s s = true := fits_of (isW_isP h) h rfl (fun _ _ => .inr rfl)
theorem isL_63 {b : UInt8} (h : isL b) : b ≠ 63 := by
  rintro rfl
  exact absurd h.1 (by decide)
theorem opn_word {s : ByteArray} (h : isW s = true) : opn s = false := by
  refine decide_eq_false fun h2 => ?_
  exact isL_63 ((of_decide_eq_true h).2.2 _ h2) rfl
/-- Where the pattern of a slot is not empty. -/
theorem patF_in {g : Int × Int × ByteArray} {f : ByteArray} {k : Int} (h : 1 ≤ (patF g f k).size) : ∃ i : Nat, k = i ∧ i < (slG g).length ∧ isF g f = true ∧ patF g f k = ⟨(patL f.data.toList (cellsS g.2.1 ((slG g).getD i none_Slot))).toArray⟩ := by
  unfold patF at h ⊢
  by_cases h9 : isF g f = true ∧ 0 ≤ k ∧ k < ((slG g).length : Int)
  · rw [if_pos h9]
    obtain ⟨h1, h2, h3⟩ := h9
    exact ⟨k.toNat, by omega, by omega, h1, rfl⟩
  · rw [if_neg h9] at h
    exact absurd h (by decide)
theorem patF_at {g : Int × Int × ByteArray} {f : ByteArray} {i : Nat} (h : isF g f = true) (hi : i < (slG g).length) : patF g f (i : Int) = ⟨(patL f.data.toList (cellsS g.2.1 ((slG g).getD i none_Slot))).toArray⟩ := by
  unfold patF
  rw [if_pos ⟨h, by omega, by omega⟩, Int.toNat_natCast]
theorem put_rec {g : Int × Int × ByteArray} {f w : ByteArray} {k : Int} (h : fitsP (patF g f k) w = true) :
    ∃ (i : Nat) (Z : List Int), k = i ∧ i < (slG g).length ∧ Z = cellsS g.2.1 ((slG g).getD i none_Slot) ∧ isF g f = true ∧ isW w = true ∧ Z.Nodup ∧ (∀ q ∈ Z, 0 ≤ q ∧ q.toNat < f.data.toList.length) ∧ (∀ q ∈ Z, g.2.2.data.toList.getD q.toNat 0 = 46) ∧ Z.length = w.size ∧ 2 ≤ w.size ∧ w.size ≤ 6 ∧ (∀ p, p < Z.length → f.data.toList.getD (Z.getD p 0).toNat 0 = 63 ∨ f.data.toList.getD (Z.getD p 0).toNat 0 = w.data.toList.getD p 0) ∧ putS g f k w = ⟨(putTo f.data.toList Z w.data.toList Z.length).toArray⟩ := by
  obtain ⟨h1, h2, h3, h4⟩ := fits_parts h
  obtain ⟨i, rfl, hi, hf, hp⟩ := patF_in (of_decide_eq_true h1).1
  have hx := getD_in hi
  have hl : (patF g f (i : Int)).size = (cellsS g.2.1 ((slG g).getD i none_Slot)).length := by rw [hp, arr_size, patL_length]
  obtain ⟨hg, hs, -, -⟩ := isF_parts hf
  have h26 := slG_small hx
  have hcl := cellsS_length g.2.1 ((slG g).getD i none_Slot)
  refine ⟨i, _, rfl, hi, rfl, hf, h2, slG_cells_nodup _ hx, fun q hq => ?_, fun q hq => ?_, by omega, by omega, by omega, fun p hpl => ?_, ?_⟩
  · obtain ⟨n, rfl, hn, -⟩ := cells_whF hx hq
    rw [size_list, hs]
    omega
  · obtain ⟨n, rfl, -, hn⟩ := cells_whF hx hq
    rw [Int.toNat_natCast]
    exact hn
  · have h5 := h4 p (by omega)
    unfold fitAt at h5
    rw [hp] at h5
    simp only at h5
    rw [patL_at _ _ hpl] at h5
    exact h5
  · unfold putS
    rw [Int.toNat_natCast]
/-- What is written is a fill again. -/
theorem put_fill {g : Int × Int × ByteArray} {f w : ByteArray} {k : Int} (h : fitsP (patF g f k) w = true) : isF g (putS g f k w) = true := by
  obtain ⟨i, Z, rfl, hi, hZ, hf, hw, hn, hz, hc, hl, -, -, -, hx⟩ := put_rec h
  obtain ⟨hg, hs, -, hok⟩ := isF_parts hf
  have hsz : (putS g f (i : Int) w).size = f.size := by rw [hx, arr_size, putTo_length, size_list]
  refine isF_of hg (hsz.trans hs) fun j hj => ?_
  rw [hsz] at hj
  rw [hx]
  simp only
  rcases putTo_cases f.data.toList Z w.data.toList hn hz j with ⟨p, hp, rfl, e⟩ | ⟨-, e⟩
  · rw [e, hc _ (getD_mem2 hp)]
    unfold okF
    rw [if_neg (by decide)]
    exact decide_eq_true (.inr (isW_at hw (by omega)))
  · rw [e]
    exact hok j hj
/-- A word that is written stands there. -/
theorem put_pat {g : Int × Int × ByteArray} {f w : ByteArray} {k : Int} (h : fitsP (patF g f k) w = true) : patF g (putS g f k w) k = w := by
  have hF := put_fill h
  obtain ⟨i, Z, rfl, hi, hZ, hf, hw, hn, hz, hc, hl, -, -, -, hx⟩ := put_rec h
  rw [patF_at hF hi, ← hZ, hx]
  refine str_ext (list_ext8 ?_ fun p hp => ?_)
  · simp only
    rw [patL_length, hl, size_list]
  · simp only at hp ⊢
    rw [patL_length] at hp
    rw [patL_at _ _ hp, putTo_in f.data.toList Z w.data.toList hn hz p _ hp (Nat.le_refl _)]
/-- It changes no letter. -/
theorem put_keeps {g : Int × Int × ByteArray} {f w : ByteArray} {k : Int} (h : fitsP (patF g f k) w = true) : (putS g f k w).size = f.size ∧ ∀ j, j < f.size → f.data.toList.getD j 0 ≠ 63 → (putS g f k w).data.toList.getD j 0 = f.data.toList.getD j 0 := by
  obtain ⟨i, Z, rfl, hi, hZ, hf, hw, hn, hz, hc, hl, -, -, h4, hx⟩ := put_rec h
  refine ⟨by rw [hx, arr_size, putTo_length, size_list], fun j hj h63 => ?_⟩
  rw [hx]
  simp only
  rcases putTo_cases f.data.toList Z w.data.toList hn hz j with ⟨p, hp, rfl, e⟩ | ⟨-, e⟩
  · rcases h4 p hp with h5 | h5
    · exact absurd h5 h63
    · rw [e, h5]
  · exact e
theorem put_self (F : List UInt8) (Z : List Int) (W : List UInt8) (h : ∀ p, p < Z.length → F.getD (Z.getD p 0).toNat 0 = W.getD p 0) : ∀ j, j ≤ Z.length → putTo F Z W j = F
  | 0, _ => rfl
  | j + 1, hj => by
    unfold putTo
    rw [put_self F Z W h j (by omega)]
    refine list_ext8 (List.length_set ..) fun i hi => ?_
    rw [getD_set]
    split
    · rename_i h2
      rw [← h2.1, h j (by omega)]
    · rfl
/-- A word that stands there is written again, and nothing changes. -/
theorem put_again {g : Int × Int × ByteArray} {f w : ByteArray} {k : Int} (h : fitsP (patF g f k) w = true) : putF g (putS g f k w) k w = (putS g f k w, true) := by
  have hP := put_pat h
  have hF := put_fill h
  obtain ⟨i, Z, rfl, hi, hZ, hf, hw, hn, hz, hc, hl, -, -, h4, hx⟩ := put_rec h
  unfold putF
  rw [hP, if_pos (fits_self hw)]
  refine Prod.ext ?_ rfl
  show putS g (putS g f (i : Int) w) (i : Int) w = putS g f (i : Int) w
  obtain ⟨X, hX⟩ : ∃ X, X = putS g f (i : Int) w := ⟨_, rfl⟩
  rw [← hX] at hx ⊢
  have h9 := put_self X.data.toList Z w.data.toList (fun p hp => by
    rw [hx]
    simp only
    exact putTo_in f.data.toList Z w.data.toList hn hz p _ hp (Nat.le_refl _)) _ (Nat.le_refl _)
  unfold putS
  rw [Int.toNat_natCast, ← hZ, h9]
theorem put_has {g : Int × Int × ByteArray} {f w : ByteArray} {k : Int} (h : fitsP (patF g f k) w = true) : w ∈ wordsF g (putS g f k w) := by
  have hP := put_pat h
  have hF := put_fill h
  obtain ⟨i, Z, rfl, hi, hZ, hf, hw, -⟩ := put_rec h
  unfold wordsF wordsTo
  rw [if_pos hF, List.mem_filter]
  refine ⟨List.mem_map.2 ⟨i, List.mem_range.2 hi, hP⟩, ?_⟩
  rw [opn_word hw]
  rfl
theorem emB_ok (c : UInt8) : okF c (emB c) = true := by
  unfold okF emB
  by_cases h : c = 35
  · rw [if_pos h, if_pos h]; rfl
  · rw [if_neg h, if_neg h]; decide
theorem emF_fill (g : Int × Int × ByteArray) : isF g (emF g) = isG g := by
  cases h : isG g with
  | false => unfold isF; rw [h]; rfl
  | true =>
    have he : emF g = ⟨(g.2.2.data.toList.map emB).toArray⟩ := if_pos h
    have hs : (emF g).size = g.2.2.size := by rw [he, arr_size, List.length_map, size_list]
    refine isF_of h hs fun i hi => ?_
    rw [he]
    simp only
    rw [hs] at hi
    rw [List.getD_eq_getElem?_getD (l := g.2.2.data.toList.map emB), List.getElem?_map, List.getD_eq_getElem?_getD, List.getElem?_eq_getElem (by rw [size_list]; exact hi)]
    exact emB_ok _
/-- In a full fill each slot has a word. -/
theorem full_words {g : Int × Int × ByteArray} {f : ByteArray} (h : fullF g f = true) : (wordsF g f).length = (slG g).length := by
  unfold fullF at h
  rw [Bool.and_eq_true] at h
  obtain ⟨hf, ho⟩ := h
  have hno : (63 : UInt8) ∉ f.data.toList := fun h9 => by
    unfold opn at ho
    rw [decide_eq_true h9] at ho
    cases ho
  obtain ⟨hg, hs, -, -⟩ := isF_parts hf
  unfold wordsF wordsTo
  rw [if_pos hf, List.filter_eq_self.2, List.length_map, List.length_range]
  intro s hs9
  obtain ⟨i, hi, rfl⟩ := List.mem_map.1 hs9
  rw [List.mem_range] at hi
  rw [patF_at hf hi]
  unfold opn
  rw [decide_eq_false]
  · rfl
  · intro h9
    unfold patL at h9
    obtain ⟨q, hq, e⟩ := List.mem_map.1 h9
    obtain ⟨n, rfl, hn, -⟩ := cells_whF (getD_in hi) hq
    rw [Int.toNat_natCast, getD_byte f n (by omega)] at e
    exact hno (e ▸ byte_mem f n (by omega))
/-- The pattern of a slot of a fill is a pattern. -/
theorem patF_isP {g : Int × Int × ByteArray} {f : ByteArray} {i : Nat} (h : isF g f = true) (hi : i < (slG g).length) : isP (patF g f (i : Int)) = true := by
  rw [patF_at h hi]
  obtain ⟨hg, hs, -, hok⟩ := isF_parts h
  have hx := getD_in hi
  have h26 := slG_small hx
  have hcl := cellsS_length g.2.1 ((slG g).getD i none_Slot)
  refine decide_eq_true ⟨by rw [arr_size, patL_length]; omega, by rw [arr_size, patL_length]; omega, fun b hb => ?_⟩
  unfold patL at hb
  obtain ⟨q, hq, rfl⟩ := List.mem_map.1 hb
  obtain ⟨n, rfl, hn, h46⟩ := cells_whF hx hq
  have h9 := hok n (by omega)
  rw [h46] at h9
  unfold okF at h9
  rw [if_neg (by decide)] at h9
  exact of_decide_eq_true h9
theorem openN_opn {s : ByteArray} (h : isP s = true) : openN s = 0 ↔ opn s = false := by
  unfold openN opn
  rw [if_pos h]
  constructor
  · intro h2
    refine decide_eq_false fun h3 => ?_
    have := List.count_pos_iff.2 h3
    omega
  · intro h2
    have := List.count_eq_zero.2 (of_decide_eq_false h2)
    omega
end Go.Proofs.YthgnhcjbjdhjfaaGreatDoor
