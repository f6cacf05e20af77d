/-
  Plain facts on fills.
  The model's contracts of IsFill, EmptyFill, l11Open, IsFull.
  The model's contracts of SlotPattern, PutWord, l11Open, IsFull, WordsIn.
  The model's contracts of PutWord and WordsIn.
-/
import Derived.Test.YtgjijmcedonlmaaGreatDoorCrossPure
import Derived.Test.YtgjijmcedonlmaaGreatDoorPatB
import Derived.Test.YtgjijmcedonlmaaGreatDoorGrid
import Derived.Test.YtgjijmcedonlmaaGreatDoorVals
import Derived.BigQuiet
import Derived.Deep.RegionHeld3
import Derived.Deep.RegionWith
namespace Go.Proofs.YtgjijmcedonlmaaGreatDoor
open Go.RowKit

/-- May a cell have this byte in a fill? -/
def okF (c f : UInt8) : Bool := if c = 35 then decide (f = 35) else decide (isPL f)
/-- The byte of a cell without a letter. -/
def emB (c : UInt8) : UInt8 := if c = 35 then 35 else 63
/-- What IsFill answers. -/
def isF (g : Int × Int × ByteArray) (f : ByteArray) : Bool := isG g && decide (f.size = g.2.2.size ∧ ∀ i, i < f.size → okF (g.2.2.data.toList.getD i 0) (f.data.toList.getD i 0) = true)
/-- What EmptyFill answers. -/
def emF (g : Int × Int × ByteArray) : ByteArray := if isG g = true then ⟨(g.2.2.data.toList.map emB).toArray⟩ else ⟨#[]⟩
/-- The bytes of some cells. -/
def patL (F : List UInt8) (Z : List Int) : List UInt8 := Z.map fun q => F.getD q.toNat 0
/-- What SlotPattern answers. -/
def patF (g : Int × Int × ByteArray) (f : ByteArray) (k : Int) : ByteArray := if isF g f = true ∧ 0 ≤ k ∧ k < ((slG g).length : Int) then ⟨(patL f.data.toList (cellsS g.2.1 ((slG g).getD k.toNat none_Slot))).toArray⟩ else ⟨#[]⟩
/-- A fill's bytes, the first j letters of a word put into cells. -/
def putTo (F : List UInt8) (Z : List Int) (W : List UInt8) : Nat → List UInt8
  | 0 => F
  | j + 1 => (putTo F Z W j).set (Z.getD j 0).toNat (W.getD j 0)
def putS (g : Int × Int × ByteArray) (f : ByteArray) (k : Int) (w : ByteArray) : ByteArray := ⟨(putTo f.data.toList (cellsS g.2.1 ((slG g).getD k.toNat none_Slot)) w.data.toList (cellsS g.2.1 ((slG g).getD k.toNat none_Slot)).length).toArray⟩
/-- What PutWord answers. -/
def putF (g : Int × Int × ByteArray) (f : ByteArray) (k : Int) (w : ByteArray) : ByteArray × Bool := if fitsP (patF g f k) w = true then (putS g f k w, true) else (f, false)
/-- Is there a place without a letter? -/
def opn (s : ByteArray) : Bool := decide ((63 : UInt8) ∈ s.data.toList)
/-- What IsFull answers. -/
def fullF (g : Int × Int × ByteArray) (f : ByteArray) : Bool := isF g f && !opn f
def wordsTo (g : Int × Int × ByteArray) (f : ByteArray) (n : Nat) : List ByteArray := ((List.range n).map fun (i : Nat) => patF g f (i : Int)).filter fun s => !opn s
/-- What WordsIn answers. -/
def wordsF (g : Int × Int × ByteArray) (f : ByteArray) : List ByteArray := if isF g f = true then wordsTo g f (slG g).length else []
theorem wordsTo_next (g : Int × Int × ByteArray) (f : ByteArray) (n : Nat) : wordsTo g f (n + 1) = wordsTo g f n ++ if opn (patF g f (n : Int)) = true then [] else [patF g f (n : Int)] := by
  unfold wordsTo
  rw [List.range_succ, List.map_append, List.filter_append]
  congr 1
  cases h : opn (patF g f (n : Int)) <;> simp [h]
theorem wordsTo_length (g : Int × Int × ByteArray) (f : ByteArray) (n : Nat) : (wordsTo g f n).length ≤ n := by
  refine Nat.le_trans (List.length_filter_le _ _) ?_
  rw [List.length_map, List.length_range]
  exact Nat.le_refl _
theorem wordsF_length (g : Int × Int × ByteArray) (f : ByteArray) : (wordsF g f).length ≤ 72 := by
  unfold wordsF
  split
  · exact Nat.le_trans (wordsTo_length ..) (slG_length g)
  · exact Nat.zero_le _

theorem isF_parts {g : Int × Int × ByteArray} {f : ByteArray} (h : isF g f = true) : isG g = true ∧ f.size = g.2.2.size ∧ f.size ≤ 36 ∧ ∀ i, i < f.size → okF (g.2.2.data.toList.getD i 0) (f.data.toList.getD i 0) = true := by
  unfold isF at h
  rw [Bool.and_eq_true] at h
  obtain ⟨h1, h2⟩ := h
  obtain ⟨h3, h4⟩ := of_decide_eq_true h2
  exact ⟨h1, h3, by have := isG_size h1; omega, h4⟩
theorem isF_of {g : Int × Int × ByteArray} {f : ByteArray} (h1 : isG g = true) (h2 : f.size = g.2.2.size) (h3 : ∀ i, i < f.size → okF (g.2.2.data.toList.getD i 0) (f.data.toList.getD i 0) = true) : isF g f = true := by
  unfold isF
  rw [h1, decide_eq_true (And.intro h2 h3)]
  rfl
theorem arr_size (l : List UInt8) : (⟨l.toArray⟩ : ByteArray).size = l.length := by
  show l.toArray.size = _
  simp
/-- The cells of a slot are white cells of the grid. -/
theorem cells_whF {g : Int × Int × ByteArray} {x : SlotV} (h : x ∈ slG g) {q : Int} (hq : q ∈ cellsS g.2.1 x) : ∃ n : Nat, q = n ∧ n < g.2.2.size ∧ g.2.2.data.toList.getD n 0 = 46 := by
  unfold cellsS at hq
  obtain ⟨k, hk, rfl⟩ := List.mem_map.1 hq
  rw [List.mem_range] at hk
  have h9 := slot_white h k hk
  obtain ⟨q, hqe⟩ : ∃ q, q = x.2.2.1 + (k : Int) * (if x.2.1 = true then g.2.1 else 1) := ⟨_, rfl⟩
  rw [← hqe] at h9 ⊢
  unfold isWh at h9
  rw [Bool.and_eq_true, Bool.and_eq_true] at h9
  obtain ⟨⟨-, h1⟩, h2⟩ := h9
  have h3 := of_decide_eq_true h1
  exact ⟨q.toNat, by omega, by omega, of_decide_eq_true h2⟩
theorem putTo_length (F : List UInt8) (Z : List Int) (W : List UInt8) : ∀ j, (putTo F Z W j).length = F.length
  | 0 => rfl
  | j + 1 => by unfold putTo; rw [List.length_set, putTo_length F Z W j]
theorem getD_set (l : List UInt8) (i k : Nat) (b : UInt8) : (l.set i b).getD k 0 = if i = k ∧ k < l.length then b else l.getD k 0 := by
  rw [List.getD_eq_getElem?_getD, List.getD_eq_getElem?_getD, List.getElem?_set]
  by_cases h : i = k
  · subst h
    rw [if_pos rfl]
    by_cases h2 : i < l.length
    · rw [if_pos h2, if_pos ⟨rfl, h2⟩]; rfl
    · rw [if_neg h2, if_neg (fun h => h2 h.2), List.getElem?_eq_none (by omega)]
  · rw [if_neg h, if_neg (fun h2 => h h2.1)]
theorem putTo_out (F : List UInt8) (Z : List Int) (W : List UInt8) (i : Nat) : ∀ j, (∀ p, p < j → (Z.getD p 0).toNat ≠ i) → (putTo F Z W j).getD i 0 = F.getD i 0
  | 0, _ => rfl
  | j + 1, h => by
    unfold putTo
    rw [getD_set, if_neg (fun h2 => h j (by omega) h2.1)]
    exact putTo_out F Z W i j (fun p hp => h p (by omega))
theorem getD_mem2 {l : List Int} {k : Nat} (h : k < l.length) : l.getD k 0 ∈ l := by
  rw [List.getD_eq_getElem?_getD, List.getElem?_eq_getElem h]
  exact List.getElem_mem h
theorem putTo_in (F : List UInt8) (Z : List Int) (W : List UInt8) (hn : Z.Nodup) (hz : ∀ q ∈ Z, 0 ≤ q ∧ q.toNat < F.length) (p : Nat) : ∀ j, p < j → j ≤ Z.length → (putTo F Z W j).getD (Z.getD p 0).toNat 0 = W.getD p 0
  | 0, h, _ => by omega
  | j + 1, h, hj => by
    have hp := hz _ (getD_mem2 (show p < Z.length by omega))
    have hj2 := hz _ (getD_mem2 (show j < Z.length by omega))
    unfold putTo
    rw [getD_set, putTo_length]
    by_cases he : p = j
    · subst he
      rw [if_pos ⟨rfl, hp.2⟩]
    · rw [if_neg, putTo_in F Z W hn hz p j (by omega) (by omega)]
      rintro ⟨h2, -⟩
      have e : Z.getD j 0 = Z.getD p 0 := by omega
      rw [List.getD_eq_getElem?_getD, List.getD_eq_getElem?_getD, List.getElem?_eq_getElem (by omega), List.getElem?_eq_getElem (by omega)] at e
      exact he ((List.getElem_inj hn).1 (show Z[p] = Z[j] from e.symm))
/-- A byte that is put, or one that stays. -/
theorem putTo_cases (F : List UInt8) (Z : List Int) (W : List UInt8) (hn : Z.Nodup) (hz : ∀ q ∈ Z, 0 ≤ q ∧ q.toNat < F.length) (i : Nat) : (∃ p, p < Z.length ∧ (Z.getD p 0).toNat = i ∧ (putTo F Z W Z.length).getD i 0 = W.getD p 0) ∨ ((∀ p, p < Z.length → (Z.getD p 0).toNat ≠ i) ∧ (putTo F Z W Z.length).getD i 0 = F.getD i 0) := by
  by_cases h : ∃ p, p < Z.length ∧ (Z.getD p 0).toNat = i
  · obtain ⟨p, hp, rfl⟩ := h
    exact .inl ⟨p, hp, rfl, putTo_in F Z W hn hz p _ hp (Nat.le_refl _)⟩
  · have h2 : ∀ p, p < Z.length → (Z.getD p 0).toNat ≠ i := fun p hp e => h ⟨p, hp, e⟩
    exact .inr ⟨h2, putTo_out F Z W i _ h2⟩
theorem patL_length (F : List UInt8) (Z : List Int) : (patL F Z).length = Z.length := List.length_map ..
theorem patL_at (F : List UInt8) (Z : List Int) {p : Nat} (h : p < Z.length) : (patL F Z).getD p 0 = F.getD (Z.getD p 0).toNat 0 := by
  unfold patL
  rw [List.getD_eq_getElem?_getD, List.getElem?_map, List.getElem?_eq_getElem h, List.getD_eq_getElem?_getD (l := Z), List.getElem?_eq_getElem h]
  rfl
theorem list_ext8 {a b : List UInt8} (h : a.length = b.length) (h2 : ∀ i, i < a.length → a.getD i 0 = b.getD i 0) : a = b := by
  refine List.ext_getElem h fun i h3 h4 => ?_
  have h5 := h2 i h3
  rw [List.getD_eq_getElem?_getD, List.getD_eq_getElem?_getD, List.getElem?_eq_getElem h3, List.getElem?_eq_getElem h4] at h5
  exact h5
theorem fits_parts {p s : ByteArray} (h : fitsP p s = true) : isP p = true ∧ isW s = true ∧ p.size = s.size ∧ ∀ k, k < p.size → fitAt p s k := by
  unfold fitsP at h
  rw [Bool.and_eq_true, Bool.and_eq_true] at h
  obtain ⟨⟨h1, h2⟩, h3⟩ := h
  exact ⟨h1, h2, of_decide_eq_true h3⟩
theorem fits_of {p s : ByteArray} (h1 : isP p = true) (h2 : isW s = true) (h3 : p.size = s.size) (h4 : ∀ k, k < p.size → fitAt p s k) : fitsP p s = true := by
  unfold fitsP
  rw [h1, h2, decide_eq_true (And.intro h3 h4)]
  rfl
theorem isW_at {s : ByteArray} (h : isW s = true) {k : Nat} (hk : k < s.size) : isL (s.data.toList.getD k 0) := by
  rw [getD_byte s k hk]
  exact (of_decide_eq_true h).2.2 _ (byte_mem s k hk)
theorem isW_isP {s : ByteArray} (h : isW s = true) : isP s = true := by
  obtain ⟨h1, h2, h3⟩ := of_decide_eq_true h
  exact decide_eq_true ⟨h1, h2, fun b hb => .inr (h3 b hb)⟩
theorem fits_self {s : ByteArray} (h : isW s = true) : fitsP s s = true := fits_of (isW_isP h) h rfl (fun _ _ => .inr rfl)
theorem isL_63 {b : UInt8} (h : isL b) : b ≠ 63 := by
  rintro rfl
  exact absurd h.1 (by decide)
theorem opn_word {s : ByteArray} (h : isW s = true) : opn s = false := by
  refine decide_eq_false fun h2 => ?_
  exact isL_63 ((of_decide_eq_true h).2.2 _ h2) rfl
/-- Where the pattern of a slot is not empty. -/
theorem patF_in {g : Int × Int × ByteArray} {f : ByteArray} {k : Int} (h : 1 ≤ (patF g f k).size) : ∃ i : Nat, k = i ∧ i < (slG g).length ∧ isF g f = true ∧ patF g f k = ⟨(patL f.data.toList (cellsS g.2.1 ((slG g).getD i none_Slot))).toArray⟩ := by
  unfold patF at h ⊢
  by_cases h9 : isF g f = true ∧ 0 ≤ k ∧ k < ((slG g).length : Int)
  · rw [if_pos h9]
    obtain ⟨h1, h2, h3⟩ := h9
    exact ⟨k.toNat, by omega, by omega, h1, rfl⟩
  · rw [if_neg h9] at h
    exact absurd h (by decide)
theorem patF_at {g : Int × Int × ByteArray} {f : ByteArray} {i : Nat} (h : isF g f = true) (hi : i < (slG g).length) : patF g f (i : Int) = ⟨(patL f.data.toList (cellsS g.2.1 ((slG g).getD i none_Slot))).toArray⟩ := by
  unfold patF
  rw [if_pos ⟨h, by omega, by omega⟩, Int.toNat_natCast]
theorem put_rec {g : Int × Int × ByteArray} {f w : ByteArray} {k : Int} (h : fitsP (patF g f k) w = true) :
    ∃ (i : Nat) (Z : List Int), k = i ∧ i < (slG g).length ∧ Z = cellsS g.2.1 ((slG g).getD i none_Slot) ∧ isF g f = true ∧ isW w = true ∧ Z.Nodup ∧ (∀ q ∈ Z, 0 ≤ q ∧ q.toNat < f.data.toList.length) ∧ (∀ q ∈ Z, g.2.2.data.toList.getD q.toNat 0 = 46) ∧ Z.length = w.size ∧ 2 ≤ w.size ∧ w.size ≤ 6 ∧ (∀ p, p < Z.length → f.data.toList.getD (Z.getD p 0).toNat 0 = 63 ∨ f.data.toList.getD (Z.getD p 0).toNat 0 = w.data.toList.getD p 0) ∧ putS g f k w = ⟨(putTo f.data.toList Z w.data.toList Z.length).toArray⟩ := by
  obtain ⟨h1, h2, h3, h4⟩ := fits_parts h
  obtain ⟨i, rfl, hi, hf, hp⟩ := patF_in (of_decide_eq_true h1).1
  have hx := getD_in hi
  have hl : (patF g f (i : Int)).size = (cellsS g.2.1 ((slG g).getD i none_Slot)).length := by rw [hp, arr_size, patL_length]
  obtain ⟨hg, hs, -, -⟩ := isF_parts hf
  have h26 := slG_small hx
  have hcl := cellsS_length g.2.1 ((slG g).getD i none_Slot)
  refine ⟨i, _, rfl, hi, rfl, hf, h2, slG_cells_nodup _ hx, fun q hq => ?_, fun q hq => ?_, by omega, by omega, by omega, fun p hpl => ?_, ?_⟩
  · obtain ⟨n, rfl, hn, -⟩ := cells_whF hx hq
    rw [size_list, hs]
    omega
  · obtain ⟨n, rfl, -, hn⟩ := cells_whF hx hq
    rw [Int.toNat_natCast]
    exact hn
  · have h5 := h4 p (by omega)
    unfold fitAt at h5
    rw [hp] at h5
    simp only at h5
    rw [patL_at _ _ hpl] at h5
    exact h5
  · unfold putS
    rw [Int.toNat_natCast]
/-- What is written is a fill again. -/
theorem put_fill {g : Int × Int × ByteArray} {f w : ByteArray} {k : Int} (h : fitsP (patF g f k) w = true) : isF g (putS g f k w) = true := by
  obtain ⟨i, Z, rfl, hi, hZ, hf, hw, hn, hz, hc, hl, -, -, -, hx⟩ := put_rec h
  obtain ⟨hg, hs, -, hok⟩ := isF_parts hf
  have hsz : (putS g f (i : Int) w).size = f.size := by rw [hx, arr_size, putTo_length, size_list]
  refine isF_of hg (hsz.trans hs) fun j hj => ?_
  rw [hsz] at hj
  rw [hx]
  simp only
  rcases putTo_cases f.data.toList Z w.data.toList hn hz j with ⟨p, hp, rfl, e⟩ | ⟨-, e⟩
  · rw [e, hc _ (getD_mem2 hp)]
    unfold okF
    rw [if_neg (by decide)]
    exact decide_eq_true (.inr (isW_at hw (by omega)))
  · rw [e]
    exact hok j hj
/-- A word that is written stands there. -/
theorem put_pat {g : Int × Int × ByteArray} {f w : ByteArray} {k : Int} (h : fitsP (patF g f k) w = true) : patF g (putS g f k w) k = w := by
  have hF := put_fill h
  obtain ⟨i, Z, rfl, hi, hZ, hf, hw, hn, hz, hc, hl, -, -, -, hx⟩ := put_rec h
  rw [patF_at hF hi, ← hZ, hx]
  refine str_ext (list_ext8 ?_ fun p hp => ?_)
  · simp only
    rw [patL_length, hl, size_list]
  · simp only at hp ⊢
    rw [patL_length] at hp
    rw [patL_at _ _ hp, putTo_in f.data.toList Z w.data.toList hn hz p _ hp (Nat.le_refl _)]
/-- It changes no letter. -/
theorem put_keeps {g : Int × Int × ByteArray} {f w : ByteArray} {k : Int} (h : fitsP (patF g f k) w = true) : (putS g f k w).size = f.size ∧ ∀ j, j < f.size → f.data.toList.getD j 0 ≠ 63 → (putS g f k w).data.toList.getD j 0 = f.data.toList.getD j 0 := by
  obtain ⟨i, Z, rfl, hi, hZ, hf, hw, hn, hz, hc, hl, -, -, h4, hx⟩ := put_rec h
  refine ⟨by rw [hx, arr_size, putTo_length, size_list], fun j hj h63 => ?_⟩
  rw [hx]
  simp only
  rcases putTo_cases f.data.toList Z w.data.toList hn hz j with ⟨p, hp, rfl, e⟩ | ⟨-, e⟩
  · rcases h4 p hp with h5 | h5
    · exact absurd h5 h63
    · rw [e, h5]
  · exact e
theorem put_self (F : List UInt8) (Z : List Int) (W : List UInt8) (h : ∀ p, p < Z.length → F.getD (Z.getD p 0).toNat 0 = W.getD p 0) : ∀ j, j ≤ Z.length → putTo F Z W j = F
  | 0, _ => rfl
  | j + 1, hj => by
    unfold putTo
    rw [put_self F Z W h j (by omega)]
    refine list_ext8 (List.length_set ..) fun i hi => ?_
    rw [getD_set]
    split
    · rename_i h2
      rw [← h2.1, h j (by omega)]
    · rfl
/-- A word that stands there is written again, and nothing changes. -/
theorem put_again {g : Int × Int × ByteArray} {f w : ByteArray} {k : Int} (h : fitsP (patF g f k) w = true) : putF g (putS g f k w) k w = (putS g f k w, true) := by
  have hP := put_pat h
  have hF := put_fill h
  obtain ⟨i, Z, rfl, hi, hZ, hf, hw, hn, hz, hc, hl, -, -, h4, hx⟩ := put_rec h
  unfold putF
  rw [hP, if_pos (fits_self hw)]
  refine Prod.ext ?_ rfl
  show putS g (putS g f (i : Int) w) (i : Int) w = putS g f (i : Int) w
  obtain ⟨X, hX⟩ : ∃ X, X = putS g f (i : Int) w := ⟨_, rfl⟩
  rw [← hX] at hx ⊢
  have h9 := put_self X.data.toList Z w.data.toList (fun p hp => by
    rw [hx]
    simp only
    exact putTo_in f.data.toList Z w.data.toList hn hz p _ hp (Nat.le_refl _)) _ (Nat.le_refl _)
  unfold putS
  rw [Int.toNat_natCast, ← hZ, h9]
theorem put_has {g : Int × Int × ByteArray} {f w : ByteArray} {k : Int} (h : fitsP (patF g f k) w = true) : w ∈ wordsF g (putS g f k w) := by
  have hP := put_pat h
  have hF := put_fill h
  obtain ⟨i, Z, rfl, hi, hZ, hf, hw, -⟩ := put_rec h
  unfold wordsF wordsTo
  rw [if_pos hF, List.mem_filter]
  refine ⟨List.mem_map.2 ⟨i, List.mem_range.2 hi, hP⟩, ?_⟩
  rw [opn_word hw]
  rfl
theorem emB_ok (c : UInt8) : okF c (emB c) = true := by
  unfold okF emB
  by_cases h : c = 35
  · rw [if_pos h, if_pos h]; rfl
  · rw [if_neg h, if_neg h]; decide
theorem emF_fill (g : Int × Int × ByteArray) : isF g (emF g) = isG g := by
  cases h : isG g with
  | false => unfold isF; rw [h]; rfl
  | true =>
    have he : emF g = ⟨(g.2.2.data.toList.map emB).toArray⟩ := if_pos h
    have hs : (emF g).size = g.2.2.size := by rw [he, arr_size, List.length_map, size_list]
    refine isF_of h hs fun i hi => ?_
    rw [he]
    simp only
    rw [hs] at hi
    rw [List.getD_eq_getElem?_getD (l := g.2.2.data.toList.map emB), List.getElem?_map, List.getD_eq_getElem?_getD, List.getElem?_eq_getElem (by rw [size_list]; exact hi)]
    exact emB_ok _
/-- In a full fill each slot has a word. -/
theorem full_words {g : Int × Int × ByteArray} {f : ByteArray} (h : fullF g f = true) : (wordsF g f).length = (slG g).length := by
  unfold fullF at h
  rw [Bool.and_eq_true] at h
  obtain ⟨hf, ho⟩ := h
  have hno : (63 : UInt8) ∉ f.data.toList := fun h9 => by
    unfold opn at ho
    rw [decide_eq_true h9] at ho
    cases ho
  obtain ⟨hg, hs, -, -⟩ := isF_parts hf
  unfold wordsF wordsTo
  rw [if_pos hf, List.filter_eq_self.2, List.length_map, List.length_range]
  intro s hs9
  obtain ⟨i, hi, rfl⟩ := List.mem_map.1 hs9
  rw [List.mem_range] at hi
  rw [patF_at hf hi]
  unfold opn
  rw [decide_eq_false]
  · rfl
  · intro h9
    unfold patL at h9
    obtain ⟨q, hq, e⟩ := List.mem_map.1 h9
    obtain ⟨n, rfl, hn, -⟩ := cells_whF (getD_in hi) hq
    rw [Int.toNat_natCast, getD_byte f n (by omega)] at e
    exact hno (e ▸ byte_mem f n (by omega))
/-- The pattern of a slot of a fill is a pattern. -/
theorem patF_isP {g : Int × Int × ByteArray} {f : ByteArray} {i : Nat} (h : isF g f = true) (hi : i < (slG g).length) : isP (patF g f (i : Int)) = true := by
  rw [patF_at h hi]
  obtain ⟨hg, hs, -, hok⟩ := isF_parts h
  have hx := getD_in hi
  have h26 := slG_small hx
  have hcl := cellsS_length g.2.1 ((slG g).getD i none_Slot)
  refine decide_eq_true ⟨by rw [arr_size, patL_length]; omega, by rw [arr_size, patL_length]; omega, fun b hb => ?_⟩
  unfold patL at hb
  obtain ⟨q, hq, rfl⟩ := List.mem_map.1 hb
  obtain ⟨n, rfl, hn, h46⟩ := cells_whF hx hq
  have h9 := hok n (by omega)
  rw [h46] at h9
  unfold okF at h9
  rw [if_neg (by decide)] at h9
  exact of_decide_eq_true h9
theorem openN_opn {s : ByteArray} (h : isP s = true) : openN s = 0 ↔ opn s = false := by
  unfold openN opn
  rw [if_pos h]
  constructor
  · intro h2
    refine decide_eq_false fun h3 => ?_
    have := List.count_pos_iff.2 h3
    omega
  · intro h2
    have := List.count_eq_zero.2 (of_decide_eq_false h2)
    omega
end Go.Proofs.YtgjijmcedonlmaaGreatDoor
namespace Go.Proofs.YtgjijmcedonlmaaGreatDoor
open Go.RowKit

theorem isF_not {g : Int × Int × ByteArray} {f : ByteArray} (h : ¬ (isG g = true ∧ f.size = g.2.2.size)) : isF g f = false := by
  cases hf : isF g f with
  | false => rfl
  | true => exact absurd ⟨(isF_parts hf).1, (isF_parts hf).2.1⟩ h
theorem isF_bad {r c : Int} {s f : ByteArray} {k : Nat} (hk : k < f.size) (hk2 : k < s.size) (h : okF s[k] f[k] = false) : isF (r, c, s) f = false := by
  cases hf : isF (r, c, s) f with
  | false => rfl
  | true =>
    have h9 := (isF_parts hf).2.2.2 k hk
    rw [getD_byte f k hk, show ((r, c, s) : Int × Int × ByteArray).2.2 = s from rfl, getD_byte s k hk2, h] at h9
    cases h9
theorem u8_nat {a b : UInt8} : (a = b) ↔ a.toNat = b.toNat := UInt8.toNat_inj.symm
set_option maxHeartbeats 1600000 in
theorem sisf_any (r c : Int) (s f : ByteArray) (hs : s.size ≤ 4194304) (_hf : f.size ≤ 4194304) (w : World) :
    Calls Tryz.prog 77 #[.agg #[.int .i64 r, .int .i64 c, .string s], .string f] w fun e w' => e = .returned (.bool (isF (r, c, s) f)) ∧ Below w.heap.size w w' := by
  have HIG := Lib.hid (fun w => sisg_any r c s hs w)
  have HBX : Hid (Below w.heap.size w (w.alloc (.cells #[.int .i64 r, .int .i64 c, .string s] 25))) := Lib.hid ((Below.refl _ _).alloc (Nat.le_refl _) _)
  have HKP : Hid (∀ w', Below (w.alloc (.cells #[.int .i64 r, .int .i64 c, .string s] 25)).heap.size (w.alloc (.cells #[.int .i64 r, .int .i64 c, .string s] 25)) w' → w'.cell? ⟨w.heap.size, 0, none⟩ = some (.int .i64 r) ∧ w'.cell? ⟨w.heap.size, 1, none⟩ = some (.int .i64 c) ∧ w'.cell? ⟨w.heap.size, 2, none⟩ = some (.string s)) := Lib.hid (fun w' h => ⟨(box3_keep h).1, (box3_keep h).2.1, (box3_keep h).2.2.1⟩)
  cases hp : isG (r, c, s) with
  | false =>
    rw [hp] at HIG
    have HF : Hid (isF (r, c, s) f = false) := Lib.hid (isF_not (fun h => by rw [hp] at h; cases h.1))
    clear hp
    go_enter Tryz.func77, Tryz.ntmps77
    go_wp2_with (go_at_call 95; refine (HIG.out _).mono ?_; rintro e w2 ⟨rfl, b2⟩; have HB2 := Lib.hid b2; clear b2)
    go_ret
    exact ⟨by rw [HF.out]; rfl, HBX.out.trans (HB2.out.mono HBX.out.size)⟩
  | true =>
    rw [hp] at HIG
    by_cases hz : f.size = s.size
    · have hn : ((f.size : Int) != (s.size : Int)) = false := by simp [hz]
      have HZ := Lib.hid hz
      have HSG : Hid (∀ b ∈ s.data.toList, b = 35 ∨ b = 46) := Lib.hid (of_decide_eq_true hp).2.2.2
      have HOK : Hid (∀ k, k < f.size → ∀ h1 : k < f.size, ∀ h2 : k < s.size, okF s[k] f[k] = false → isF (r, c, s) f = false) := Lib.hid (fun k _ h1 h2 h => isF_bad h1 h2 h)
      have HYES : Hid ((∀ i, i < f.size → okF (s.data.toList.getD i 0) (f.data.toList.getD i 0) = true) → isF (r, c, s) f = true) := Lib.hid (fun h => isF_of hp hz h)
      clear hz hp
      go_enter Tryz.func77, Tryz.ntmps77
      go_wp2_with (go_at_call 95; refine (HIG.out _).mono ?_; rintro e w2 ⟨rfl, b2⟩; have HB2 := Lib.hid b2; clear b2; obtain ⟨d0, d1, d2⟩ := HKP.out _ HB2.out)
      go_loopw [5] (fun i wr => ∃ k : Nat, k ≤ f.size ∧ i = .int .i64 k ∧ Hid (∀ i, i < k → okF (s.data.toList.getD i 0) (f.data.toList.getD i 0) = true) ∧ w2 = wr) (fun i _ => f.size - (intOf i).toNat)
      case atStart => exact ⟨0, Nat.zero_le _, rfl, Lib.hid (fun i h => by omega), rfl⟩
      case round =>
        obtain ⟨k, hk, rfl, HL, rfl⟩ := hrel
        by_cases hlt : k < f.size
        · have hlt2 : k < s.size := by have := HZ.out; omega
          have HNX : Hid (okF s[k] f[k] = true → ∀ i, i < k + 1 → okF (s.data.toList.getD i 0) (f.data.toList.getD i 0) = true) := Lib.hid (fun h i hi => by
            by_cases he : i = k
            · subst he; rw [getD_byte s i hlt2, getD_byte f i hlt]; exact h
            · exact HL.out i (by omega))
          have HNO : Hid (okF s[k] f[k] = false → isF (r, c, s) f = false) := Lib.hid (HOK.out k hlt hlt hlt2)
          have hsk := HSG.out _ (byte_mem s k hlt2)
          obtain ⟨a, ha⟩ : ∃ a, a = s[k] := ⟨_, rfl⟩
          obtain ⟨b, hb⟩ : ∃ b, b = f[k] := ⟨_, rfl⟩
          rw [← ha, ← hb] at HNX HNO
          rw [← ha] at hsk
          have ha2 : (s[k].toNat : Int) = (a.toNat : Int) := by rw [ha]
          have hb2 : (f[k].toNat : Int) = (b.toNat : Int) := by rw [hb]
          have hb255 : b.toNat ≤ 255 := by have := b.toNat_lt; omega
          rcases hsk with rfl | rfl
          · have ha3 : (s[k].toNat : Int) = 35 := ha2
            by_cases h35 : b = 35
            · subst h35
              have hb3 : (f[k].toNat : Int) = 35 := hb2
              have HN := Lib.hid (HNX.out (by decide))
              clear ha hb ha2 hb2 HNX HNO
              have t1 : ((f[k].toNat : Int) == 63) = false := by rw [hb3]; decide
              have t2 : decide ((97 : Int) ≤ (f[k].toNat : Int)) = false := by rw [hb3]; decide
              have t2' : decide ((97 : Nat) ≤ f[k].toNat) = false := decide_eq_false (by omega)
              have t3 : ((s[k].toNat : Int) == 35) = true := by rw [ha3]; decide
              have t4 : ((f[k].toNat : Int) != 35) = false := by rw [hb3]; decide
              have t5 : ((s[k].toNat : Int) == 46) = false := by rw [ha3]; decide
              go_wp2
              go_roundw
              case rel => exact ⟨k + 1, by omega, by go_num, HN, by trivial⟩
              case measure => simp [intOf]; omega
            · have HF := Lib.hid (HNO.out (by unfold okF; rw [if_pos rfl]; exact decide_eq_false h35))
              have hne : ¬ b.toNat = 35 := fun e => h35 (u8_nat.2 e)
              clear HNX HNO
              have t3 : ((s[k].toNat : Int) == 35) = true := by rw [ha3]; decide
              have t4 : ((f[k].toNat : Int) != 35) = true := by rw [hb2]; simp; omega
              by_cases h63 : b.toNat = 63
              · have t1 : ((f[k].toNat : Int) == 63) = true := by rw [hb2, h63]; decide
                clear ha hb ha2 hb2
                go_wp2
                go_ret
                exact ⟨by rw [HF.out]; rfl, HBX.out.trans (HB2.out.mono HBX.out.size)⟩
              · have t1 : ((f[k].toNat : Int) == 63) = false := by rw [hb2]; simp; omega
                by_cases h97 : 97 ≤ b.toNat
                · have t2 : decide ((97 : Int) ≤ (f[k].toNat : Int)) = true := by rw [hb2]; exact decide_eq_true (by omega)
                  have t2' : decide ((97 : Nat) ≤ f[k].toNat) = true := decide_eq_true (by omega)
                  clear ha hb ha2 hb2
                  go_wp2
                  go_ret
                  exact ⟨by rw [HF.out]; rfl, HBX.out.trans (HB2.out.mono HBX.out.size)⟩
                · have t2 : decide ((97 : Int) ≤ (f[k].toNat : Int)) = false := by rw [hb2]; exact decide_eq_false (by omega)
                  have t2' : decide ((97 : Nat) ≤ f[k].toNat) = false := decide_eq_false (by omega)
                  clear ha hb ha2 hb2
                  go_wp2
                  go_ret
                  exact ⟨by rw [HF.out]; rfl, HBX.out.trans (HB2.out.mono HBX.out.size)⟩
          · have ha3 : (s[k].toNat : Int) = 46 := ha2
            have t3 : ((s[k].toNat : Int) == 35) = false := by rw [ha3]; decide
            have t5 : ((s[k].toNat : Int) == 46) = true := by rw [ha3]; decide
            by_cases h63 : b.toNat = 63
            · have HN := Lib.hid (HNX.out (by unfold okF; rw [if_neg (by decide)]; exact decide_eq_true (.inl h63)))
              have t1 : ((f[k].toNat : Int) == 63) = true := by rw [hb2, h63]; decide
              clear ha hb ha2 hb2 HNX HNO
              go_wp2
              go_roundw
              case rel => exact ⟨k + 1, by omega, by go_num, HN, by trivial⟩
              case measure => simp [intOf]; omega
            · have t1 : ((f[k].toNat : Int) == 63) = false := by rw [hb2]; simp; omega
              by_cases h97 : 97 ≤ b.toNat
              · have t2 : decide ((97 : Int) ≤ (f[k].toNat : Int)) = true := by rw [hb2]; exact decide_eq_true (by omega)
                have t2' : decide ((97 : Nat) ≤ f[k].toNat) = true := decide_eq_true (by omega)
                by_cases h122 : b.toNat ≤ 122
                · have t6 : decide ((f[k].toNat : Int) ≤ 122) = true := by rw [hb2]; exact decide_eq_true (by omega)
                  have t6' : decide (f[k].toNat ≤ 122) = true := decide_eq_true (by omega)
                  have HN := Lib.hid (HNX.out (by unfold okF; rw [if_neg (by decide)]; exact decide_eq_true (.inr ⟨h97, h122⟩)))
                  clear ha hb ha2 hb2 HNX HNO
                  go_wp2
                  go_roundw
                  case rel => exact ⟨k + 1, by omega, by go_num, HN, by trivial⟩
                  case measure => simp [intOf]; omega
                · have t6 : decide ((f[k].toNat : Int) ≤ 122) = false := by rw [hb2]; exact decide_eq_false (by omega)
                  have t6' : decide (f[k].toNat ≤ 122) = false := decide_eq_false (by omega)
                  have HF := Lib.hid (HNO.out (by unfold okF; rw [if_neg (by decide)]; exact decide_eq_false (by rintro (h | ⟨-, h⟩); exact h63 h; exact h122 h)))
                  clear ha hb ha2 hb2 HNX HNO
                  go_wp2
                  go_ret
                  exact ⟨by rw [HF.out]; rfl, HBX.out.trans (HB2.out.mono HBX.out.size)⟩
              · have t2 : decide ((97 : Int) ≤ (f[k].toNat : Int)) = false := by rw [hb2]; exact decide_eq_false (by omega)
                have t2' : decide ((97 : Nat) ≤ f[k].toNat) = false := decide_eq_false (by omega)
                have HF := Lib.hid (HNO.out (by unfold okF; rw [if_neg (by decide)]; exact decide_eq_false (by rintro (h | ⟨h, -⟩); exact h63 h; exact h97 h)))
                clear ha hb ha2 hb2 HNX HNO
                go_wp2
                go_ret
                exact ⟨by rw [HF.out]; rfl, HBX.out.trans (HB2.out.mono HBX.out.size)⟩
        · have HT := Lib.hid (HYES.out (fun i hi => HL.out i (by omega)))
          go_wp2
          go_ret
          exact ⟨by rw [HT.out]; rfl, HBX.out.trans (HB2.out.mono HBX.out.size)⟩
    · have hn : ((f.size : Int) != (s.size : Int)) = true := by simp; omega
      have HF : Hid (isF (r, c, s) f = false) := Lib.hid (isF_not (fun h => hz h.2))
      clear hz hp
      go_enter Tryz.func77, Tryz.ntmps77
      go_wp2_with (go_at_call 95; refine (HIG.out _).mono ?_; rintro e w2 ⟨rfl, b2⟩; have HB2 := Lib.hid b2; clear b2; obtain ⟨d0, d1, d2⟩ := HKP.out _ HB2.out)
      go_ret
      exact ⟨by rw [HF.out]; rfl, HBX.out.trans (HB2.out.mono HBX.out.size)⟩

theorem emF_not {g : Int × Int × ByteArray} (h : isG g = false) : emF g = ⟨#[]⟩ := by unfold emF; rw [h]; rfl
set_option maxHeartbeats 1600000 in
theorem semf_any (r c : Int) (s : ByteArray) (hs : s.size ≤ 4194304) (w : World) :
    Calls Tryz.prog 74 #[.agg #[.int .i64 r, .int .i64 c, .string s]] w fun e w' => e = .returned (.string (emF (r, c, s))) ∧ Below w.heap.size w w' := by
  have HIG := Lib.hid (fun w => sisg_any r c s hs w)
  have HBX : Hid (Below w.heap.size w (w.alloc (.cells #[.int .i64 r, .int .i64 c, .string s] 25))) := Lib.hid ((Below.refl _ _).alloc (Nat.le_refl _) _)
  have HKP : Hid (∀ w', Below (w.alloc (.cells #[.int .i64 r, .int .i64 c, .string s] 25)).heap.size (w.alloc (.cells #[.int .i64 r, .int .i64 c, .string s] 25)) w' → w'.cell? ⟨w.heap.size, 0, none⟩ = some (.int .i64 r) ∧ w'.cell? ⟨w.heap.size, 1, none⟩ = some (.int .i64 c) ∧ w'.cell? ⟨w.heap.size, 2, none⟩ = some (.string s)) := Lib.hid (fun w' h => ⟨(box3_keep h).1, (box3_keep h).2.1, (box3_keep h).2.2.1⟩)
  obtain ⟨p, hp⟩ : ∃ p, p = isG (r, c, s) := ⟨_, rfl⟩
  rw [← hp] at HIG
  cases p with
  | false =>
    have HF : Hid (emF (r, c, s) = ⟨#[]⟩) := Lib.hid (emF_not hp.symm)
    clear hp
    go_enter Tryz.func74, Tryz.ntmps74
    go_wp2
    obtain ⟨W1, hW1⟩ : ∃ W1, W1 = w.alloc (.cells #[.int .i64 r, .int .i64 c, .string s] 25) := ⟨_, rfl⟩
    rw [← hW1] at HBX HKP ⊢
    clear hW1
    go_loopw [3, 4] (fun o i wr => o = .string ⟨#[]⟩ ∧ i = .int .i64 0 ∧ Hid (Below W1.heap.size W1 wr)) (fun _ _ _ => 0)
    case atStart => exact ⟨rfl, rfl, Lib.hid (Below.refl _ _)⟩
    case round =>
      obtain ⟨rfl, rfl, HB⟩ := hrel
      obtain ⟨c0, c1, c2⟩ := HKP.out _ HB.out
      by_cases hr0 : 0 < s.size
      · have hd : decide ((0 : Int) < (s.size : Int)) = true := decide_eq_true (by omega)
        have hd2 : decide (0 < s.size) = true := decide_eq_true hr0
        go_wp2_with (go_at_call 95; refine (HIG.out _).mono ?_; rintro e w2 ⟨rfl, b2⟩; have HB2 : Hid (Below W1.heap.size W1 w2) := Lib.hid (HB.out.trans (b2.mono HB.out.size)); obtain ⟨d0, d1, d2⟩ := HKP.out _ HB2.out; clear b2)
        go_ret
        exact ⟨by rw [HF.out]; rfl, HBX.out.trans (HB2.out.mono HBX.out.size)⟩
      · have hd : decide ((0 : Int) < (s.size : Int)) = false := decide_eq_false (by omega)
        have hd2 : decide (0 < s.size) = false := decide_eq_false hr0
        go_wp2
        go_ret
        exact ⟨by rw [HF.out]; rfl, HBX.out.trans (HB.out.mono HBX.out.size)⟩
  | true =>
    have hs36 : s.size ≤ 36 := isG_size hp.symm
    have HSG : Hid (∀ b ∈ s.data.toList, b = 35 ∨ b = 46) := Lib.hid (of_decide_eq_true hp.symm).2.2.2
    have HF : Hid (emF (r, c, s) = ⟨(s.data.toList.map emB).toArray⟩) := Lib.hid (if_pos hp.symm)
    clear hp
    go_enter Tryz.func74, Tryz.ntmps74
    go_wp2
    obtain ⟨W1, hW1⟩ : ∃ W1, W1 = w.alloc (.cells #[.int .i64 r, .int .i64 c, .string s] 25) := ⟨_, rfl⟩
    rw [← hW1] at HBX HKP ⊢
    clear hW1
    go_loopw [3, 4] (fun o i wr => ∃ (k : Nat) (t : ByteArray), k ≤ s.size ∧ i = .int .i64 k ∧ o = .string t ∧ Hid (t.data.toList = (s.data.toList.take k).map emB) ∧ t.size ≤ k ∧ Hid (Below W1.heap.size W1 wr)) (fun _ i _ => s.size - (intOf i).toNat)
    case atStart => exact ⟨0, ⟨#[]⟩, Nat.zero_le _, rfl, rfl, Lib.hid rfl, by decide, Lib.hid (Below.refl _ _)⟩
    case round =>
      obtain ⟨k, t, hk, rfl, rfl, HT, ht, HB⟩ := hrel
      obtain ⟨c0, c1, c2⟩ := HKP.out _ HB.out
      by_cases hlt : k < s.size
      · have hd : decide ((k : Int) < (s.size : Int)) = true := decide_eq_true (by omega)
        have hd2 : decide (k < s.size) = true := decide_eq_true hlt
        have HTK := Lib.hid (take_snoc s k hlt)
        have hsk := HSG.out _ (byte_mem s k hlt)
        rcases hsk with h35 | h46
        · have hq : ((s[k].toNat : Int) == 35) = true := by simp [h35]
          have HT2 : Hid ((t ++ ⟨#[35]⟩).data.toList = (s.data.toList.take (k + 1)).map emB) := Lib.hid (by rw [HTK.out, List.map_append, h35, ByteArray.data_append, Array.toList_append, HT.out]; rfl)
          have hts : (t ++ ⟨#[35]⟩).size ≤ k + 1 := by rw [ByteArray.size_append]; show t.size + 1 ≤ _; omega
          clear h35
          go_wp2_with (go_at_call 95; refine (HIG.out _).mono ?_; rintro e w2 ⟨rfl, b2⟩; have HB2 : Hid (Below W1.heap.size W1 w2) := Lib.hid (HB.out.trans (b2.mono HB.out.size)); obtain ⟨d0, d1, d2⟩ := HKP.out _ HB2.out; clear b2)
          go_roundw
          case rel => exact ⟨k + 1, _, by omega, by go_num, rfl, HT2, hts, HB2⟩
          case measure => simp [intOf]; omega
        · have hq : ((s[k].toNat : Int) == 35) = false := by simp [h46]
          have HT2 : Hid ((t ++ ⟨#[63]⟩).data.toList = (s.data.toList.take (k + 1)).map emB) := Lib.hid (by rw [HTK.out, List.map_append, h46, ByteArray.data_append, Array.toList_append, HT.out]; rfl)
          have hts : (t ++ ⟨#[63]⟩).size ≤ k + 1 := by rw [ByteArray.size_append]; show t.size + 1 ≤ _; omega
          clear h46
          go_wp2_with (go_at_call 95; refine (HIG.out _).mono ?_; rintro e w2 ⟨rfl, b2⟩; have HB2 : Hid (Below W1.heap.size W1 w2) := Lib.hid (HB.out.trans (b2.mono HB.out.size)); obtain ⟨d0, d1, d2⟩ := HKP.out _ HB2.out; clear b2)
          go_roundw
          case rel => exact ⟨k + 1, _, by omega, by go_num, rfl, HT2, hts, HB2⟩
          case measure => simp [intOf]; omega
      · have hd : decide ((k : Int) < (s.size : Int)) = false := decide_eq_false (by omega)
        have hd2 : decide (k < s.size) = false := decide_eq_false hlt
        have HE : Hid (t = emF (r, c, s)) := Lib.hid (by
          rw [HF.out]
          refine str_ext ?_
          rw [HT.out, List.take_of_length_le (by rw [size_list]; omega)])
        go_wp2
        go_ret
        exact ⟨by rw [← HE.out]; rfl, HBX.out.trans (HB.out.mono HBX.out.size)⟩
end Go.Proofs.YtgjijmcedonlmaaGreatDoor
namespace Go.Proofs.YtgjijmcedonlmaaGreatDoor
open Go.RowKit

theorem cellI {W : World} {base m cap : Nat} {e : TypeId} {a0 : Option Addr} {l : List Int} (h : W.ownsRow base e 1 (.slice a0 m cap) m (l.map (Value.int .i64))) (hn : m = l.length) (j : Nat) (hj : j < l.length) :
    ∃ b, a0 = some ⟨b, 0, none⟩ ∧ W.cell? ⟨b, j, none⟩ = some (.int .i64 (l.getD j 0)) := by
  subst hn
  rcases h.2 with ⟨e9, hl⟩ | ⟨g, cap', cur, e9, -⟩
  · exfalso
    injection e9 with _ e8 _
    omega
  · cases e9
    refine ⟨g, rfl, ?_⟩
    rw [h.cellAt j (by omega)]
    simp [List.getD, hj]
theorem opn_not {s : ByteArray} (h : ∀ b ∈ s.data.toList, b ≠ 63) : opn s = false := decide_eq_false (fun h2 => h _ h2 rfl)
theorem opn_yes {s : ByteArray} {k : Nat} (h : k < s.size) (h2 : s[k] = 63) : opn s = true := decide_eq_true (h2 ▸ byte_mem s k h)
theorem patF_no {g : Int × Int × ByteArray} {f : ByteArray} {k : Int} (h : ¬ (isF g f = true ∧ 0 ≤ k ∧ k < ((slG g).length : Int))) : patF g f k = ⟨#[]⟩ := by
  unfold patF
  rw [if_neg h]
theorem patL_next (F : List UInt8) (Z : List Int) {j : Nat} (h : j < Z.length) : patL F (Z.take (j + 1)) = patL F (Z.take j) ++ [F.getD (Z.getD j 0).toNat 0] := by
  unfold patL
  rw [List.take_succ_eq_append_getElem h, List.map_append, List.getD_eq_getElem?_getD (l := Z), List.getElem?_eq_getElem h]
  rfl
set_option maxRecDepth 100000 in
set_option maxHeartbeats 1600000 in
theorem spat_any (r c : Int) (s f : ByteArray) (k : Int) (hs : s.size ≤ 4194304) (hf : f.size ≤ 4194304) (w : World) :
    Calls Tryz.prog 79 #[.agg #[.int .i64 r, .int .i64 c, .string s], .string f, .int .i64 k] w fun e w' => e = .returned (.string (patF (r, c, s) f k)) ∧ Below w.heap.size w w' := by
  have HIF := Lib.hid (fun w => sisf_any r c s f hs hf w)
  have HSL := Lib.hid (fun w => ssl_any r c s hs w)
  have HLEN := Lib.hid (slG_length (r, c, s))
  have HBX : Hid (Below w.heap.size w (w.alloc (.cells #[.int .i64 r, .int .i64 c, .string s] 25))) := Lib.hid ((Below.refl _ _).alloc (Nat.le_refl _) _)
  have HKP : Hid (∀ w', Below (w.alloc (.cells #[.int .i64 r, .int .i64 c, .string s] 25)).heap.size (w.alloc (.cells #[.int .i64 r, .int .i64 c, .string s] 25)) w' → w'.cell? ⟨w.heap.size, 0, none⟩ = some (.int .i64 r) ∧ w'.cell? ⟨w.heap.size, 1, none⟩ = some (.int .i64 c) ∧ w'.cell? ⟨w.heap.size, 2, none⟩ = some (.string s)) := Lib.hid (fun w' h => ⟨(box3_keep h).1, (box3_keep h).2.1, (box3_keep h).2.2.1⟩)
  have HNO := Lib.hid (fun h => patF_no (g := (r, c, s)) (f := f) (k := k) h)
  obtain ⟨p, hp⟩ : ∃ p, p = isF (r, c, s) f := ⟨_, rfl⟩
  have HFA : Hid (p = true → f.size = s.size ∧ ∀ x ∈ slG (r, c, s), ∀ q ∈ cellsS c x, ∃ n : Nat, q = n ∧ n < s.size) := Lib.hid (fun h => by
    rw [hp] at h
    exact ⟨(isF_parts h).2.1, fun x hx q hq => by
      obtain ⟨n, h1, h2, -⟩ := cells_whF hx hq
      exact ⟨n, h1, h2⟩⟩)
  have HYES : Hid (∀ i : Nat, p = true → i < (slG (r, c, s)).length → patF (r, c, s) f (i : Int) = ⟨(patL f.data.toList (cellsS c ((slG (r, c, s)).getD i none_Slot))).toArray⟩) := Lib.hid (fun i h hi => patF_at (hp ▸ h) hi)
  have HCL := Lib.hid (fun (x : SlotV) (hx : x ∈ slG (r, c, s)) w => by
    have h := scl_any r c s x.1 x.2.1 x.2.2.1 x.2.2.2 hs w
    rw [show ((x.1, x.2.1, x.2.2.1, x.2.2.2) : SlotV) = x from rfl, clG_in hx] at h
    exact h)
  have HSM := Lib.hid (fun x hx => slG_small (g := (r, c, s)) (x := x) hx)
  rw [← hp] at HIF HNO
  clear hp
  obtain ⟨l, hl⟩ : ∃ l, l = slG (r, c, s) := ⟨_, rfl⟩
  rw [← hl] at HSL HLEN HFA HYES HCL HSM HNO
  clear hl
  have hl72 := HLEN.out
  have hw9 : IntKind.i64.wrap ((l.length : Int) - 1) = (l.length : Int) - 1 := by rw [IntKind.wrap_i64]; omega
  cases p with
  | false =>
    have HF : Hid (patF (r, c, s) f k = ⟨#[]⟩) := Lib.hid (HNO.out (fun h => by cases h.1))
    go_enter Tryz.func79, Tryz.ntmps79
    go_wp2_with (first | (go_at_call 59; refine (HSL.out _).mono ?_; rintro e w2 ⟨v2, rfl, o2, b2⟩; obtain ⟨a0, cap, rfl⟩ := ownV_slice o2; have HB2 := Lib.hid b2; obtain ⟨d0, d1, d2⟩ := HKP.out _ HB2.out; clear o2 b2) | (go_at_call 77; refine (HIF.out _).mono ?_; rintro e w3 ⟨rfl, b3⟩; have HB3 := Lib.hid (HB2.out.trans (b3.mono HB2.out.size)); clear b3))
    go_ret
    exact ⟨by rw [HF.out]; rfl, HBX.out.trans (HB3.out.mono HBX.out.size)⟩
  | true =>
    by_cases hin : 0 ≤ k ∧ k ≤ (l.length : Int) - 1
    · obtain ⟨j, rfl⟩ : ∃ j : Nat, k = j := ⟨k.toNat, by omega⟩
      have hj : j < l.length := by omega
      have HE := Lib.hid (HYES.out j rfl hj)
      obtain ⟨hfs, hq9⟩ := HFA.out rfl
      have HQ := Lib.hid (hq9 _ (getD_in hj))
      have HC1 := Lib.hid (HCL.out _ (getD_in hj))
      have HC6 : Hid ((cellsS c (l.getD j none_Slot)).length ≤ 6) := Lib.hid (by rw [cellsS_length]; have := (HSM.out _ (getD_in hj)).2.2.2.1; omega)
      have HIN := Lib.hid hin
      have HSC0 : Hid (∀ (W : World) (base : Nat) (a0 : Option Addr) (cap : Nat), W.ownsRow base 63 4 (.slice a0 l.length cap) l.length (row_Slot l) → ∃ b, a0 = some ⟨b, 0, none⟩ ∧ W.cell? ⟨b, j * 4, none⟩ = some (.int .i64 (l.getD j none_Slot).1) ∧ W.cell? ⟨b, j * 4 + 1, none⟩ = some (.bool (l.getD j none_Slot).2.1) ∧ W.cell? ⟨b, j * 4 + 2, none⟩ = some (.int .i64 (l.getD j none_Slot).2.2.1) ∧ W.cell? ⟨b, j * 4 + 3, none⟩ = some (.int .i64 (l.getD j none_Slot).2.2.2)) := Lib.hid (fun W base a0 cap h => slot_cells h rfl j hj)
      clear hin hq9 HYES HNO HFA HCL HSM
      obtain ⟨y, hy⟩ : ∃ y, y = l.getD j none_Slot := ⟨_, rfl⟩
      rw [← hy] at HE HQ HC1 HC6 HSC0
      clear hy
      obtain ⟨t0, t1, t2, t3⟩ := y
      obtain ⟨Z, hZ⟩ : ∃ Z, Z = cellsS c (t0, t1, t2, t3) := ⟨_, rfl⟩
      rw [← hZ] at HE HQ HC1 HC6
      clear hZ
      simp only at HC1 HSC0
      rw [HE.out]
      have hj0 : (0 : Int) ≤ (j : Int) := by omega
      have hz6 := HC6.out
      go_enter Tryz.func79, Tryz.ntmps79
      go_wp2_with (first | (go_at_call 59; refine (HSL.out _).mono ?_; rintro e w2 ⟨v2, rfl, o2, b2⟩; obtain ⟨a0, cap, rfl⟩ := ownV_slice o2; have HL2 := Lib.hid o2; have HB2 := Lib.hid b2; obtain ⟨d0, d1, d2⟩ := HKP.out _ HB2.out; clear o2 b2) | (go_at_call 77; refine (HIF.out _).mono ?_; rintro e w3 ⟨rfl, b3⟩; have HL3 := Lib.hid (ownV_later HL2.out b3); have HB3 := Lib.hid (HB2.out.trans (b3.mono HB2.out.size)); clear b3) | (go_at_call 100; refine (lin_yes (j : Int) _ _ HIN.out.1 HIN.out.2 _).mono ?_; rintro e w1 ⟨rfl, rfl⟩))
      obtain ⟨b, rfl, -⟩ := HSC0.out _ _ _ _ HL3.out
      have SOT : Hid (∀ W : World, Below w3.heap.size w3 W → (W.cell? ⟨w.heap.size, 0, none⟩ = some (.int .i64 r) ∧ W.cell? ⟨w.heap.size, 1, none⟩ = some (.int .i64 c) ∧ W.cell? ⟨w.heap.size, 2, none⟩ = some (.string s)) ∧ (W.cell? ⟨b, j * 4, none⟩ = some (.int .i64 t0) ∧ W.cell? ⟨b, j * 4 + 1, none⟩ = some (.bool t1) ∧ W.cell? ⟨b, j * 4 + 2, none⟩ = some (.int .i64 t2) ∧ W.cell? ⟨b, j * 4 + 3, none⟩ = some (.int .i64 t3))) := Lib.hid (fun W h => by
        refine ⟨HKP.out _ (HB3.out.trans (h.mono HB3.out.size)), ?_⟩
        obtain ⟨b9, e9, s0, s1, s2, s3⟩ := HSC0.out _ _ _ _ (ownV_later HL3.out h)
        injection e9 with e9; injection e9 with e9; subst e9
        exact ⟨s0, s1, s2, s3⟩)
      clear HL3 HL2 HSC0 HIF HSL HKP d0 d1 d2
      have hbn : Below w3.heap.size w3 w3 := Below.refl _ _
      go_region_held3 (fun W => (W.cell? ⟨w.heap.size, 0, none⟩ = some (.int .i64 r) ∧ W.cell? ⟨w.heap.size, 1, none⟩ = some (.int .i64 c) ∧ W.cell? ⟨w.heap.size, 2, none⟩ = some (.string s)) ∧ (W.cell? ⟨b, j * 4, none⟩ = some (.int .i64 t0) ∧ W.cell? ⟨b, j * 4 + 1, none⟩ = some (.bool t1) ∧ W.cell? ⟨b, j * 4 + 2, none⟩ = some (.int .i64 t2) ∧ W.cell? ⟨b, j * 4 + 3, none⟩ = some (.int .i64 t3))) (first | exact SOT.out _ hbn | exact SOT.out _ hbn.drew) (first | (go_at_call 99; refine Calls.mono (HC1.out _) ?_; rintro e w5 ⟨v5, rfl, o5, b5⟩; obtain ⟨a5, cap5, rfl⟩ := ownV_slice o5; have HA5 := Lib.hid (own_widen o5 (by first | exact hbn.size | exact hbn.drew.size)); have hbm : Below w3.heap.size w3 _ := (by first | exact hbn.trans (b5.mono hbn.size) | exact hbn.drew.trans (b5.mono hbn.drew.size) | exact hbn.drew.trans b5); clear hbn; have hbn := hbm; clear hbm b5; clear o5))
      all_goals go_wp2_with fail
      all_goals have HB5 := Lib.hid (HBX.out.trans ((HB3.out.trans (hbn.mono HB3.out.size)).mono HBX.out.size))
      all_goals clear hbn
      go_loopw [8, 10] (fun o i wr => ∃ (m : Nat) (t : ByteArray), m ≤ Z.length ∧ i = .int .i64 m ∧ o = .string t ∧ Hid (t.data.toList = patL f.data.toList (Z.take m)) ∧ t.size ≤ m ∧ Hid (wr.ownsRow w3.heap.size 3 1 (.slice a5 Z.length cap5) Z.length (Z.map (Value.int .i64))) ∧ Hid (Below w.heap.size w wr)) (fun _ i _ => Z.length - (intOf i).toNat)
      case atStart => exact ⟨0, ⟨#[]⟩, Nat.zero_le _, rfl, rfl, Lib.hid (by simp [patL]), by decide, HA5, HB5⟩
      case round =>
        clear HA5 HB5
        obtain ⟨m, t, hm, rfl, rfl, HT, ht, HA5, HB5⟩ := hrel
        by_cases hlt : m < Z.length
        · have hd : decide ((m : Int) < (Z.length : Int)) = true := decide_eq_true (by omega)
          have hd9 : decide (m < Z.length) = true := decide_eq_true hlt
          obtain ⟨bz, rfl, q0⟩ := cellI HA5.out rfl m hlt
          obtain ⟨n, hn, hns⟩ := HQ.out _ (getD_mem2 hlt)
          have HNX := Lib.hid (patL_next f.data.toList Z hlt)
          rw [hn] at q0 HNX
          have hnf : n < f.size := by omega
          have HT2 : Hid ((t ++ f.extract n (n + 1)).data.toList = patL f.data.toList (Z.take (m + 1))) := Lib.hid (by
            rw [snoc_list f t n hnf, HT.out, HNX.out, Int.toNat_natCast, getD_byte f n hnf])
          have hts : (t ++ f.extract n (n + 1)).size ≤ m + 1 := by rw [ByteArray.size_append, ByteArray.size_extract]; omega
          have hw1 : IntKind.i64.wrap ((n : Int) + 1) = (n : Int) + 1 := IntWalk.i64_in _ (by omega)
          clear hn HNX
          go_wp2
          go_quiet (fail)
          have HA6 : Hid ((wr.drewN nq).ownsRow w3.heap.size 3 1 (.slice (some ⟨bz, 0, none⟩) Z.length cap5) Z.length (Z.map (Value.int .i64))) := Lib.hid HA5.out
          all_goals go_wp2
          go_roundw
          case rel => exact ⟨m + 1, _, by omega, by go_num, rfl, HT2, hts, HA6, Lib.hid (below_drewN HB5.out _)⟩
          case measure => simp [intOf]; omega
        · have hd : decide ((m : Int) < (Z.length : Int)) = false := decide_eq_false (by omega)
          have hd9 : decide (m < Z.length) = false := decide_eq_false hlt
          have HV : Hid (t = ⟨(patL f.data.toList Z).toArray⟩) := Lib.hid (str_ext (by rw [HT.out, List.take_of_length_le (by omega)]))
          go_wp2
          go_ret
          exact ⟨by rw [← HV.out]; rfl, HB5.out⟩
    · have HF : Hid (patF (r, c, s) f k = ⟨#[]⟩) := Lib.hid (HNO.out (fun h => hin ⟨h.2.1, by have := h.2.2; omega⟩))
      have HN := Lib.hid hin
      clear hin
      go_enter Tryz.func79, Tryz.ntmps79
      go_wp2_with (first | (go_at_call 59; refine (HSL.out _).mono ?_; rintro e w2 ⟨v2, rfl, o2, b2⟩; obtain ⟨a0, cap, rfl⟩ := ownV_slice o2; have HB2 := Lib.hid b2; obtain ⟨d0, d1, d2⟩ := HKP.out _ HB2.out; clear o2 b2) | (go_at_call 77; refine (HIF.out _).mono ?_; rintro e w3 ⟨rfl, b3⟩; have HB3 := Lib.hid (HB2.out.trans (b3.mono HB2.out.size)); clear b3) | (go_at_call 100; refine (lin_no k _ _ HN.out _).mono ?_; rintro e w1 ⟨rfl, rfl⟩))
      go_ret
      exact ⟨by rw [HF.out]; rfl, HBX.out.trans (HB3.out.mono HBX.out.size)⟩
end Go.Proofs.YtgjijmcedonlmaaGreatDoor
namespace Go.Proofs.YtgjijmcedonlmaaGreatDoor
open Go.RowKit

theorem set_split {l : List UInt8} {n : Nat} (h : n < l.length) (b : UInt8) : l.take n ++ [b] ++ l.drop (n + 1) = l.set n b := by
  rw [List.set_eq_take_append_cons_drop, if_pos h]
  simp
theorem put_step {t x : ByteArray} {F W : List UInt8} {Z : List Int} {m n : Nat} (hT : t.data.toList = putTo F Z W m) (hW : x.data.toList = W) (hn : Z.getD m 0 = (n : Int)) (h1 : n < t.size) (h2 : m < x.size) :
    (t.extract 0 n ++ x.extract m (m + 1) ++ t.extract (n + 1) t.size).data.toList = putTo F Z W (m + 1) := by
  rw [ByteArray.data_append, ByteArray.data_append, Array.toList_append, Array.toList_append, extract_one x m h2, ByteArray.data_extract, ByteArray.data_extract, Array.toList_extract, Array.toList_extract]
  have h3 : t.data.toList.length = t.size := size_list t
  rw [List.extract_eq_take_drop, List.extract_eq_take_drop]
  show _ = (putTo F Z W m).set (Z.getD m 0).toNat (W.getD m 0)
  rw [← hT, hn, Int.toNat_natCast, ← hW, getD_byte x m h2, ← set_split (by omega)]
  simp only [Nat.sub_zero, List.drop_zero]
  rw [List.take_of_length_le (l := t.data.toList.drop (n + 1)) (by rw [List.length_drop]; omega)]
theorem putF_no {g : Int × Int × ByteArray} {f x : ByteArray} {k : Int} (h : fitsP (patF g f k) x = false) : putF g f k x = (f, false) := by
  unfold putF
  rw [h]
  rfl
theorem putF_yes {g : Int × Int × ByteArray} {f x : ByteArray} {k : Int} (h : fitsP (patF g f k) x = true) : putF g f k x = (putS g f k x, true) := if_pos h
set_option maxRecDepth 100000 in
set_option maxHeartbeats 1600000 in
theorem spw_any (r c : Int) (s f : ByteArray) (k : Int) (x : ByteArray) (hs : s.size ≤ 4194304) (hf : f.size ≤ 4194304) (w : World) :
    Calls Tryz.prog 75 #[.agg #[.int .i64 r, .int .i64 c, .string s], .string f, .int .i64 k, .string x] w fun e w' => e = .returned (.tuple #[.string (putF (r, c, s) f k x).1, .bool (putF (r, c, s) f k x).2]) ∧ Below w.heap.size w w' := by
  have HSP := Lib.hid (fun w => spat_any r c s f k hs hf w)
  have HBX : Hid (Below w.heap.size w (w.alloc (.cells #[.int .i64 r, .int .i64 c, .string s] 25))) := Lib.hid ((Below.refl _ _).alloc (Nat.le_refl _) _)
  have HKP : Hid (∀ w', Below (w.alloc (.cells #[.int .i64 r, .int .i64 c, .string s] 25)).heap.size (w.alloc (.cells #[.int .i64 r, .int .i64 c, .string s] 25)) w' → w'.cell? ⟨w.heap.size, 0, none⟩ = some (.int .i64 r) ∧ w'.cell? ⟨w.heap.size, 1, none⟩ = some (.int .i64 c) ∧ w'.cell? ⟨w.heap.size, 2, none⟩ = some (.string s)) := Lib.hid (fun w' h => ⟨(box3_keep h).1, (box3_keep h).2.1, (box3_keep h).2.2.1⟩)
  have HFT := Lib.hid (fun w => sfits_any (patF (r, c, s) f k) x w)
  cases hp : fitsP (patF (r, c, s) f k) x with
  | false =>
    rw [hp] at HFT
    have HF := Lib.hid (putF_no hp)
    obtain ⟨P, hP⟩ : ∃ P, P = patF (r, c, s) f k := ⟨_, rfl⟩
    rw [← hP] at HSP HFT
    clear hp hP
    go_enter Tryz.func75, Tryz.ntmps75
    go_wp2_with (first | (go_at_call 79; refine (HSP.out _).mono ?_; rintro e w2 ⟨rfl, b2⟩; have HB2 := Lib.hid b2; clear b2) | (go_at_call 106; refine (HFT.out _).mono ?_; rintro e w3 ⟨rfl, b3⟩; have HB3 := Lib.hid (HB2.out.trans (b3.mono HB2.out.size)); clear b3))
    go_ret2
    exact ⟨by rw [HF.out]; rfl, HBX.out.trans (HB3.out.mono HBX.out.size)⟩
  | true =>
    rw [hp] at HFT
    have HF := Lib.hid (putF_yes hp)
    obtain ⟨i, Z, rfl, hi, hZ, hif, hw9, hn, hz, -, hl, -, hl6, -, hx⟩ := put_rec hp
    have HXE := Lib.hid hx
    have HZS : Hid (∀ m, m < Z.length → ∃ n : Nat, Z.getD m 0 = (n : Int) ∧ n < f.size) := Lib.hid (fun m hm => by
      obtain ⟨h1, h2⟩ := hz _ (getD_mem2 hm)
      exact ⟨(Z.getD m 0).toNat, by omega, by rw [← size_list]; exact h2⟩)
    have hf36 := (isF_parts hif).2.2.1
    have HSL := Lib.hid (fun w => ssl_any r c s hs w)
    have HC1 := Lib.hid (fun w => by
      have h := scl_any r c s ((slG (r, c, s)).getD i none_Slot).1 ((slG (r, c, s)).getD i none_Slot).2.1 ((slG (r, c, s)).getD i none_Slot).2.2.1 ((slG (r, c, s)).getD i none_Slot).2.2.2 hs w
      rw [show ((((slG (r, c, s)).getD i none_Slot).1, ((slG (r, c, s)).getD i none_Slot).2.1, ((slG (r, c, s)).getD i none_Slot).2.2.1, ((slG (r, c, s)).getD i none_Slot).2.2.2) : SlotV) = (slG (r, c, s)).getD i none_Slot from rfl, clG_in (getD_in hi)] at h
      exact h)
    simp only at hZ HC1
    rw [← hZ] at HC1
    obtain ⟨P, hP⟩ : ∃ P, P = patF (r, c, s) f (i : Int) := ⟨_, rfl⟩
    rw [← hP] at HSP HFT
    obtain ⟨l, hl9⟩ : ∃ l, l = slG (r, c, s) := ⟨_, rfl⟩
    rw [← hl9] at HSL HC1 hi
    have HSC0 : Hid (∀ (W : World) (base : Nat) (a0 : Option Addr) (cap : Nat), W.ownsRow base 63 4 (.slice a0 l.length cap) l.length (row_Slot l) → ∃ b, a0 = some ⟨b, 0, none⟩ ∧ W.cell? ⟨b, i * 4, none⟩ = some (.int .i64 (l.getD i none_Slot).1) ∧ W.cell? ⟨b, i * 4 + 1, none⟩ = some (.bool (l.getD i none_Slot).2.1) ∧ W.cell? ⟨b, i * 4 + 2, none⟩ = some (.int .i64 (l.getD i none_Slot).2.2.1) ∧ W.cell? ⟨b, i * 4 + 3, none⟩ = some (.int .i64 (l.getD i none_Slot).2.2.2)) := Lib.hid (fun W base a0 cap h => slot_cells h rfl i hi)
    have hxs : Z.length ≤ x.size := by omega
    obtain ⟨y, hy⟩ : ∃ y, y = l.getD i none_Slot := ⟨_, rfl⟩
    rw [← hy] at HC1 HSC0
    clear hp hP hl9 hy hZ hif hw9 hn hz hl hx
    obtain ⟨t0, t1, t2, t3⟩ := y
    simp only at HC1 HSC0
    have hi0 : (0 : Int) ≤ (i : Int) := by omega
    have hil : (i : Int) < (l.length : Int) := by omega
    go_enter Tryz.func75, Tryz.ntmps75
    go_wp2_with (first | (go_at_call 79; refine (HSP.out _).mono ?_; rintro e w2 ⟨rfl, b2⟩; have HB2 := Lib.hid b2; clear b2) | (go_at_call 106; refine (HFT.out _).mono ?_; rintro e w3 ⟨rfl, b3⟩; have HB3 := Lib.hid (HB2.out.trans (b3.mono HB2.out.size)); clear b3))
    have HGK : Hid (∀ W, Below w3.heap.size w3 W → W.cell? ⟨w.heap.size, 0, none⟩ = some (.int .i64 r) ∧ W.cell? ⟨w.heap.size, 1, none⟩ = some (.int .i64 c) ∧ W.cell? ⟨w.heap.size, 2, none⟩ = some (.string s)) := Lib.hid (fun W h => HKP.out _ (HB3.out.trans (h.mono HB3.out.size)))
    obtain ⟨g0, g1, g2⟩ := HGK.out _ (Below.refl _ _)
    clear HKP
    go_cut [10] (fun v wx => ∃ a6 cap6, v = .slice a6 Z.length cap6 ∧ Hid (wx.ownsRow w3.heap.size 3 1 (.slice a6 Z.length cap6) Z.length (Z.map (Value.int .i64))) ∧ Hid (Below w3.heap.size w3 wx))
    case first =>
      go_region_with (first | (go_at_call 59; refine Calls.mono (HSL.out _) ?_; rintro e w5 ⟨v5, rfl, o5, b5⟩; obtain ⟨a5, cap5, rfl⟩ := ownV_slice o5; have HB5 : Hid (Below w3.heap.size w3 w5) := Lib.hid (by first | exact b5 | exact ((Below.refl w3.heap.size w3).drew).trans b5); obtain ⟨bb, rfl, q0, q1, q2, q3⟩ := HSC0.out _ _ _ _ o5; obtain ⟨k0, k1, k2⟩ := HGK.out _ HB5.out; clear o5 b5) | (go_at_call 99; refine Calls.mono (HC1.out _) ?_; rintro e w6 ⟨v6, rfl, o6, b6⟩; obtain ⟨a6, cap6, rfl⟩ := ownV_slice o6; have HB6 : Hid (Below w3.heap.size w3 w6) := Lib.hid (by first | exact HB5.out.trans (b6.mono HB5.out.size) | exact (HB5.out.drew).trans (b6.mono HB5.out.size)); have HA6 := Lib.hid (own_widen o6 HB5.out.size); clear o6 b6))
      all_goals (go_wp2_with fail; go_meet; exact ⟨a6, cap6, rfl, HA6, HB6⟩)
    case rest =>
    obtain ⟨a6, cap6, rfl, HA6, HB6⟩ := hcut
    go_wp2_with fail
    have HB7 := Lib.hid (HBX.out.trans ((HB3.out.trans (HB6.out.mono HB3.out.size)).mono HBX.out.size))
    clear g0 g1 g2
    go_loopw [1, 11] (fun o i wr => ∃ (m : Nat) (t : ByteArray), m ≤ Z.length ∧ i = .int .i64 m ∧ o = .string t ∧ Hid (t.data.toList = putTo f.data.toList Z x.data.toList m) ∧ t.size = f.size ∧ Hid (wr.ownsRow w3.heap.size 3 1 (.slice a6 Z.length cap6) Z.length (Z.map (Value.int .i64))) ∧ Hid (Below w.heap.size w wr)) (fun _ i _ => Z.length - (intOf i).toNat)
    case atStart => exact ⟨0, f, Nat.zero_le _, rfl, rfl, Lib.hid rfl, rfl, HA6, HB7⟩
    case round =>
      clear HA6 HB7
      obtain ⟨m, t, hm, rfl, rfl, HT, ht, HA5, HB5⟩ := hrel
      by_cases hlt : m < Z.length
      · have hd : decide ((m : Int) < (Z.length : Int)) = true := decide_eq_true (by omega)
        have hd9 : decide (m < Z.length) = true := decide_eq_true hlt
        obtain ⟨bz, rfl, q0⟩ := cellI HA5.out rfl m hlt
        obtain ⟨n, hn, hns⟩ := HZS.out m hlt
        have hnt : n < t.size := by omega
        have HT2 := Lib.hid (put_step HT.out rfl hn hnt (show m < x.size by omega))
        have hts : (t.extract 0 n ++ x.extract m (m + 1) ++ t.extract (n + 1) t.size).size = f.size := by rw [ByteArray.size_append, ByteArray.size_append, ByteArray.size_extract, ByteArray.size_extract, ByteArray.size_extract]; omega
        rw [hn] at q0
        have hw1 : IntKind.i64.wrap ((n : Int) + 1) = (n : Int) + 1 := IntWalk.i64_in _ (by omega)
        have hw2 : IntKind.i64.wrap ((m : Int) + 1) = (m : Int) + 1 := IntWalk.i64_in _ (by omega)
        have b1 : (n : Int) ≤ (t.size : Int) := by omega
        have b2 : (n : Int) + 1 ≤ (t.size : Int) := by omega
        have b3 : (m : Int) + 1 ≤ (x.size : Int) := by omega
        have ht36 : t.size ≤ 36 := by omega
        have HTS := Lib.hid ht
        clear hn ht
        go_wp2
        go_quiet (fail)
        have HA6 : Hid ((wr.drewN nq).ownsRow w3.heap.size 3 1 (.slice (some ⟨bz, 0, none⟩) Z.length cap6) Z.length (Z.map (Value.int .i64))) := Lib.hid HA5.out
        all_goals go_wp2
        go_roundw
        case rel => exact ⟨m + 1, _, by omega, by go_num, rfl, HT2, hts, HA6, Lib.hid (below_drewN HB5.out _)⟩
        case measure => simp [intOf]; omega
      · have hd : decide ((m : Int) < (Z.length : Int)) = false := decide_eq_false (by omega)
        have hd9 : decide (m < Z.length) = false := decide_eq_false hlt
        have HV : Hid (t = putS (r, c, s) f (i : Int) x) := Lib.hid (by
          rw [HXE.out]
          refine str_ext ?_
          rw [HT.out, show m = Z.length by omega])
        go_wp2
        go_ret2
        exact ⟨by rw [HF.out, ← HV.out]; rfl, HB5.out⟩

theorem infoStF : (Tryz.prog.info? 9).map (fun i => (i.zero, i.size, i.bytes)) = some (some (.string ⟨#[]⟩), 1, 16) := by kernel_rfl
end Go.Proofs.YtgjijmcedonlmaaGreatDoor
