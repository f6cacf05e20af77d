/-
  slices.IndexFunc, slices.ContainsFunc, slices.DeleteFunc, slices.Clone at strings, with whatever predicate: a function value that may lay blocks.
-/
import Derived.Test.YtgjijmcedonlmaaGreatDoorNest
import Derived.Laws.IdiomCopy
import Derived.Lib.SliceRun
import Derived.Shelf.Abstract
namespace Go.Proofs.YtgjijmcedonlmaaGreatDoor
open Go.RowKit

/-- Where the first hit stands, or -1. -/
def FirstAt {α : Type} (p : α → Bool) (l : List α) (d : α) (r : Int) : Prop := (r = -1 ∧ ∀ z ∈ l, p z = false) ∨ ∃ k : Nat, r = k ∧ k < l.length ∧ p (l.getD k d) = true ∧ ∀ z ∈ l.take k, p z = false
theorem FirstAt.any {α : Type} {p : α → Bool} {l : List α} {d : α} {r : Int} (h : FirstAt p l d r) : decide (0 ≤ r) = l.any p := by
  rcases h with ⟨rfl, h⟩ | ⟨k, rfl, hk, h, -⟩
  · rw [show l.any p = false from by rw [List.any_eq_false]; exact fun z hz => by rw [h z hz]; simp]
    rfl
  · rw [show l.any p = true from List.any_eq_true.2 ⟨_, by simp [List.getD, hk], h⟩]
    exact decide_eq_true (by omega)
theorem take_one_more {α : Type} {l : List α} {k : Nat} {d : α} (h : k < l.length) : l.take (k + 1) = l.take k ++ [l.getD k d] := by
  rw [List.take_succ_eq_append_getElem h]
  simp [List.getD, h]
/-- What is asked of a predicate on strings: in each world where all blocks but one row's are as they were. -/
def PredS (P : Program) (g : Nat) (lb : Array Value) (p : ByteArray → Bool) (l : List ByteArray) (w : World) (row : Option Nat) : Prop :=
  ∀ W z, z ∈ l → w.grownBy W row → Calls P g (#[.string z] ++ lb) W fun e w' => e = .returned (.bool (p z)) ∧ Below W.heap.size W w'
set_option maxRecDepth 100000 in
set_option maxHeartbeats 1600000 in
theorem idxS_any (g : Nat) (lb : Array Value) (eg : ∀ args w, (callFunc g args).run Tryz.prog w = .ok (.enter g args) w) (p : ByteArray → Bool) (l : List ByteArray) (hl : l.length ≤ 16777216) (v : Value) (w : World) (hv : ReadsS w.heap.size w v l) (hp : PredS Tryz.prog g lb p l w none) :
    Calls Tryz.prog 109 #[v, .func (.func g) #[] lb] w fun e w' => ∃ r, FirstAt p l ⟨#[]⟩ r ∧ e = .returned (.int .i64 r) ∧ Below w.heap.size w w' := by
  obtain ⟨-, a0, cap, rfl, -, hc⟩ := hv.cells
  have HC := Lib.hid hc
  have HP := Lib.hid hp
  clear hc hv hp
  go_enter Tryz.func109, Tryz.ntmps109
  go_wp2
  go_loopw [8] (fun i wr => ∃ k : Nat, k ≤ l.length ∧ i = .int .i64 k ∧ Hid (∀ y ∈ l.take k, p y = false) ∧ Hid (Below w.heap.size w wr)) (fun i _ => l.length - (intOf i).toNat)
  case atStart => exact ⟨0, Nat.zero_le _, rfl, Lib.hid (by simp), Lib.hid (Below.refl _ _)⟩
  case round =>
    obtain ⟨k, hk, rfl, HN, HB⟩ := hrel
    by_cases hlt : k < l.length
    · have hd : decide ((k : Int) < (l.length : Int)) = true := decide_eq_true (by omega)
      obtain ⟨b1, off, rfl, hb1, q0⟩ := HC.out k hlt
      have q0 := (HB.out.cell (p := ⟨b1, off + k, none⟩) hb1).trans q0
      have HT := Lib.hid (take_one_more (d := (⟨#[]⟩ : ByteArray)) hlt)
      have hcall := HP.out wr (l.getD k ⟨#[]⟩) (by simp [List.getD, hlt]) (grown_of_below HB.out none)
      have HY : Hid (p (l.getD k ⟨#[]⟩) = true → FirstAt p l ⟨#[]⟩ k) := Lib.hid (fun h => Or.inr ⟨k, rfl, hlt, h, HN.out⟩)
      have HT2 : Hid (p (l.getD k ⟨#[]⟩) = false → ∀ y ∈ l.take (k + 1), p y = false) := Lib.hid (fun hne y hy => by
        rw [HT.out] at hy
        rcases List.mem_append.1 hy with h | h
        · exact HN.out y h
        · rw [List.mem_singleton.1 h]; exact hne)
      obtain ⟨y, hy⟩ : ∃ y, y = l.getD k ⟨#[]⟩ := ⟨_, rfl⟩
      rw [← hy] at q0 hcall HY HT2
      clear hy HT
      cases hq : p y with
      | true =>
        rw [hq] at hcall
        have HG := Lib.hid (HY.out hq)
        clear HY HT2 hq
        have HCC := Lib.hid hcall
        clear hcall
        go_wp2_with (go_at_fn g; refine HCC.out.mono ?_; rintro e w3 ⟨rfl, b3⟩; have HB3 := Lib.hid (HB.out.trans (b3.mono HB.out.size)); clear b3)
        go_ret
        exact ⟨_, HG.out, rfl, HB3.out⟩
      | false =>
        rw [hq] at hcall
        have HN2 := Lib.hid (HT2.out hq)
        clear HY HT2 HN hq
        have HCC := Lib.hid hcall
        clear hcall
        go_wp2_with (go_at_fn g; refine HCC.out.mono ?_; rintro e w3 ⟨rfl, b3⟩; have HB3 := Lib.hid (HB.out.trans (b3.mono HB.out.size)); clear b3)
        go_roundw
        case rel => exact ⟨k + 1, by omega, by go_num, HN2, HB3⟩
        case measure => simp [intOf]; omega
    · have hd : decide ((k : Int) < (l.length : Int)) = false := decide_eq_false (by omega)
      obtain rfl : k = l.length := by omega
      have HG : Hid (FirstAt p l ⟨#[]⟩ (-1)) := Lib.hid (Or.inl ⟨rfl, fun y hy => HN.out y (by rw [List.take_length]; exact hy)⟩)
      go_wp2
      go_ret
      exact ⟨-1, HG.out, rfl, HB.out⟩
/-- A row cut to its head. -/
theorem own_cut {W : World} {base s n m cap g : Nat} {e : TypeId} {xs ys : List Value} (h : W.ownsRow base e s (.slice (some ⟨g, 0, none⟩) n cap) n xs) (hm : m ≤ n) (hy : xs.take (m * s) = ys) : W.ownsRow base e s (.slice (some ⟨g, 0, none⟩) m cap) m ys := by
  rcases h.2 with ⟨h', _⟩ | ⟨g', cap', cur, h', hb, hg, hnc, hcm, hcs, ht⟩
  · cases h'
  · simp only [Value.slice.injEq, Option.some.injEq, Addr.mk.injEq, and_true, true_and] at h'
    obtain ⟨rfl, rfl⟩ := h'
    have h1 := h.1
    have hms : m * s ≤ n * s := Nat.mul_le_mul_right s hm
    refine ⟨by rw [← hy, List.length_take, h1]; omega, .inr ⟨g, cap, cur, rfl, hb, hg, by omega, hcm, hcs, ?_⟩⟩
    rw [← hy, ← ht, List.take_take, Nat.min_eq_left hms]
theorem own_cells {base s n cap g : Nat} {e : TypeId} : ∀ (vs : List Value) (o : Nat) (W : World) (xs : List Value), W.ownsRow base e s (.slice (some ⟨g, 0, none⟩) n cap) n xs → ∃ ys : List Value, (W.setCells g o vs).ownsRow base e s (.slice (some ⟨g, 0, none⟩) n cap) n ys ∧ ys.take o = xs.take o ∧ W.grownBy (W.setCells g o vs) (some g)
  | [], o, W, xs, h => ⟨xs, h, rfl, grown_refl _ _⟩
  | u :: vs, o, W, xs, h => by
    have h1 := h.stored o u
    obtain ⟨ys, h2, h3, h4⟩ := own_cells vs (o + 1) (W.setCell ⟨g, o, none⟩ u) _ h1.1
    refine ⟨ys, h2, ?_, grown_trans h1.2 h4⟩
    have h5 := congrArg (List.take o) h3
    rw [List.take_take, List.take_take, Nat.min_eq_left (by omega), List.take_set_of_le (Nat.le_refl o)] at h5
    exact h5
/-- The cells while words are struck: what is kept, what is left over, what comes. -/
def delC (p : ByteArray → Bool) (l : List ByteArray) (j : Nat) (M : List Value) : List Value := ((l.take j).filter fun z => !p z).map Value.string ++ M ++ (l.drop j).map Value.string
theorem delC_len {p : ByteArray → Bool} {l : List ByteArray} {i j : Nat} {M : List Value} (hi : ((l.take j).filter fun z => !p z).length = i) (hM : M.length = j - i) (hij : i ≤ j) (hj : j ≤ l.length) : (delC p l j M).length = l.length := by
  simp only [delC, List.length_append, List.length_map, hi, hM, List.length_drop]
  omega
theorem delC_at {p : ByteArray → Bool} {l : List ByteArray} {i j : Nat} {M : List Value} (hi : ((l.take j).filter fun z => !p z).length = i) (hM : M.length = j - i) (hij : i ≤ j) (hj : j < l.length) : (delC p l j M)[j]? = some (.string (l.getD j ⟨#[]⟩)) := by
  unfold delC
  rw [List.getElem?_append_right (by simp only [List.length_append, List.length_map, hi, hM]; omega)]
  simp only [List.length_append, List.length_map, hi, hM]
  rw [show j - (i + (j - i)) = 0 by omega]
  simp [hj]
theorem delC_skip {p : ByteArray → Bool} {l : List ByteArray} {j : Nat} {M : List Value} (hj : j < l.length) (hp : p (l.getD j ⟨#[]⟩) = true) : delC p l j M = delC p l (j + 1) (M ++ [.string (l.getD j ⟨#[]⟩)]) ∧ ((l.take (j + 1)).filter fun z => !p z) = (l.take j).filter fun z => !p z := by
  have h1 := take_one_more (d := (⟨#[]⟩ : ByteArray)) hj
  have h2 : ((l.take (j + 1)).filter fun z => !p z) = (l.take j).filter fun z => !p z := by
    rw [h1, List.filter_append, List.filter_cons_of_neg (by rw [hp]; decide)]
    simp
  refine ⟨?_, h2⟩
  unfold delC
  rw [h2, List.drop_eq_getElem_cons hj, List.map_cons, show l.getD j (⟨#[]⟩ : ByteArray) = l[j] by simp [List.getD, hj]]
  simp only [List.append_assoc, List.cons_append, List.nil_append]
theorem delC_keep {p : ByteArray → Bool} {l : List ByteArray} {i j : Nat} {M : List Value} (hi : ((l.take j).filter fun z => !p z).length = i) (hM : M.length = j - i) (hij : i < j) (hj : j < l.length) (hp : p (l.getD j ⟨#[]⟩) = false) :
    ∃ M', (delC p l j M).set i (.string (l.getD j ⟨#[]⟩)) = delC p l (j + 1) M' ∧ M'.length = j - i ∧ ((l.take (j + 1)).filter fun z => !p z).length = i + 1 := by
  have h1 := take_one_more (d := (⟨#[]⟩ : ByteArray)) hj
  have h2 : ((l.take (j + 1)).filter fun z => !p z) = ((l.take j).filter fun z => !p z) ++ [l.getD j ⟨#[]⟩] := by
    rw [h1, List.filter_append, List.filter_cons_of_pos (by rw [hp]; decide)]
    simp
  match M, hM with
  | [], hM => simp at hM; omega
  | m :: M, hM =>
    refine ⟨M ++ [.string (l.getD j ⟨#[]⟩)], ?_, by simp at hM ⊢; omega, by rw [h2, List.length_append, hi]; rfl⟩
    unfold delC
    rw [h2, List.append_assoc, List.set_append_right _ _ (by rw [List.length_map, hi]; exact Nat.le_refl _), List.length_map, hi, Nat.sub_self, List.cons_append, List.set_cons_zero, List.drop_eq_getElem_cons hj, List.map_cons, List.map_append, show l.getD j (⟨#[]⟩ : ByteArray) = l[j] by simp [List.getD, hj]]
    simp only [List.append_assoc, List.cons_append, List.nil_append, List.map_cons, List.map_nil]
theorem delC_take {p : ByteArray → Bool} {l : List ByteArray} {i : Nat} {M : List Value} (hi : ((l.take l.length).filter fun z => !p z).length = i) : (delC p l l.length M).take (i * 1) = (l.filter fun z => !p z).map Value.string := by
  unfold delC
  rw [List.take_length] at hi ⊢
  rw [Nat.mul_one, List.append_assoc, List.take_append_of_le_length (by simp [hi])]
  exact List.take_of_length_le (by simp [hi])
/-- What DeleteFunc hands back. -/
def delL (p : ByteArray → Bool) (l : List ByteArray) : List ByteArray := l.filter fun z => !p z
set_option maxRecDepth 100000 in
set_option maxHeartbeats 1600000 in
theorem delS_any (g : Nat) (lb : Array Value) (eg : ∀ args w, (callFunc g args).run Tryz.prog w = .ok (.enter g args) w) (p : ByteArray → Bool) (l : List ByteArray) (hl : l.length ≤ 16777216) (base : Nat) (v : Value) (w : World) (hv : w.ownsRow base 9 1 v l.length (l.map Value.string)) (hp : PredS Tryz.prog g lb p l w v.ownBlock) :
    Calls Tryz.prog 83 #[v, .func (.func g) #[] lb] w fun e w' => ∃ v', e = .returned v' ∧ v'.ownBlock = v.ownBlock ∧ w'.ownsRow base 9 1 v' (delL p l).length ((delL p l).map Value.string) ∧ w.grownBy w' v.ownBlock := by
  have hnone : ∀ W, w.grownBy W none → w.grownBy W v.ownBlock := fun W h => ⟨h.os, h.tape, h.output, h.size, fun k hk _ => h.block k hk (by simp)⟩
  have HIF := Lib.hid (idxS_any g lb eg p l hl v w (readsS_own hv rfl (by omega)) (fun W z hz hW => hp W z hz (hnone W hW)))
  have HP := Lib.hid hp
  have HV := Lib.hid hv
  clear hp
  by_cases hall : ∀ z ∈ l, p z = false
  · have HD : Hid (delL p l = l) := Lib.hid (by unfold delL; exact List.filter_eq_self.2 (fun z hz => by rw [hall z hz]; rfl))
    have HI : Hid (∀ r, FirstAt p l ⟨#[]⟩ r → r = -1) := Lib.hid (fun r h => by
      rcases h with ⟨h, -⟩ | ⟨k, -, hk, h, -⟩
      · exact h
      · rw [hall _ (by simp [List.getD, hk])] at h; cases h)
    obtain ⟨a0, cap, rfl⟩ := ownV_slice hv
    clear hv hall hnone
    go_enter Tryz.func83, Tryz.ntmps83
    go_wp2_with (go_at_call 109; refine HIF.out.mono ?_; rintro e w1 ⟨r, hr, rfl, b1⟩; obtain rfl := HI.out r hr; have HB1 := Lib.hid b1; clear hr b1)
    go_ret
    exact ⟨_, rfl, rfl, by rw [HD.out]; exact ownV_later HV.out HB1.out, grown_of_below HB1.out _⟩
  · have hlp : 0 < l.length := by
      rcases Nat.eq_zero_or_pos l.length with h | h
      · exact absurd (fun z hz => by rw [List.length_eq_zero_iff.1 h] at hz; cases hz) hall
      · exact h
    obtain ⟨blk, cap, rfl⟩ := Joins.ownsRow_form hv hlp
    have HI : Hid (∀ r, FirstAt p l ⟨#[]⟩ r → ∃ k : Nat, r = k ∧ k < l.length ∧ p (l.getD k ⟨#[]⟩) = true ∧ ∀ z ∈ l.take k, p z = false) := Lib.hid (fun r h => by
      rcases h with ⟨-, h⟩ | h
      · exact absurd h hall
      · exact h)
    have hcap : l.length ≤ cap := by
      rcases hv.2 with ⟨h', _⟩ | ⟨g', cap', cur, h', _, _, hnc, _⟩
      · cases h'
      · injection h' with _ _ e3; omega
    have HS0 : Hid (∀ k0 : Nat, k0 < l.length → p (l.getD k0 ⟨#[]⟩) = true → (∀ z ∈ l.take k0, p z = false) → ((l.take (k0 + 1)).filter fun z => !p z).length = k0 ∧ delC p l (k0 + 1) [.string (l.getD k0 ⟨#[]⟩)] = l.map Value.string) := Lib.hid (fun k0 hk0 ht hn => by
      have h1 : ((l.take k0).filter fun z => !p z) = l.take k0 := List.filter_eq_self.2 (fun z hz => by rw [hn z hz]; rfl)
      have h2 := delC_skip (M := []) hk0 ht
      rw [List.nil_append] at h2
      refine ⟨by rw [h2.2, h1, List.length_take]; omega, ?_⟩
      rw [← h2.1]
      unfold delC
      rw [h1, List.append_nil, ← List.map_append, List.take_append_drop])
    clear hv hall hnone
    go_enter Tryz.func83, Tryz.ntmps83
    go_wp2_with (go_at_call 109; refine HIF.out.mono ?_; rintro e w1 ⟨r, hr, rfl, b1⟩; obtain ⟨k0, rfl, hk0, ht, hn⟩ := HI.out r hr; have hne1 : ((k0 : Int) == -1) = false := beq_eq_false_iff_ne.2 (by omega); have HB1 := Lib.hid b1; have HH := Lib.hid (HS0.out k0 hk0 ht hn); clear hr b1 ht hn)
    go_loopw [5, 6] (fun s5 s6 wr => ∃ (i j : Nat) (M : List Value), s5 = .int .i64 i ∧ s6 = .int .i64 j ∧ i < j ∧ j ≤ l.length ∧ Hid (((l.take j).filter fun z => !p z).length = i) ∧ Hid (M.length = j - i) ∧ Hid (wr.ownsRow base 9 1 (.slice (some ⟨blk, 0, none⟩) l.length cap) l.length (delC p l j M)) ∧ Hid (w.grownBy wr (some blk))) (fun _ s6 _ => l.length - (intOf s6).toNat)
    case atStart => exact ⟨k0, k0 + 1, [.string (l.getD k0 ⟨#[]⟩)], rfl, by go_num, by omega, by omega, Lib.hid HH.out.1, Lib.hid (by simp), Lib.hid (by rw [HH.out.2]; exact ownV_later HV.out HB1.out), Lib.hid (grown_of_below HB1.out _)⟩
    case round =>
      obtain ⟨i, j, M, rfl, rfl, hij, hj, HF, HM, HO, HG⟩ := hrel
      by_cases hlt : j < l.length
      · have hd : decide ((j : Int) < (l.length : Int)) = true := decide_eq_true (by omega)
        have cj := (HO.out.cellAt j (by omega)).trans (delC_at HF.out HM.out (by omega) hlt)
        have HSK := Lib.hid (fun h => delC_skip (p := p) (M := M) hlt h)
        have HKE := Lib.hid (fun h => delC_keep (p := p) HF.out HM.out hij hlt h)
        have hcall := HP.out wr (l.getD j ⟨#[]⟩) (by simp [List.getD, hlt]) HG.out
        obtain ⟨y, hy⟩ : ∃ y, y = l.getD j ⟨#[]⟩ := ⟨_, rfl⟩
        rw [← hy] at cj hcall HSK HKE
        clear hy
        cases hq : p y with
        | false =>
          rw [hq] at hcall
          have HCC := Lib.hid hcall
          obtain ⟨M', h1, h2, h3⟩ := HKE.out hq
          have H1 := Lib.hid h1
          have H2 := Lib.hid h2
          have H3 := Lib.hid h3
          clear hcall HSK HKE hq h1 h2 h3
          have HIL : Hid (i < (delC p l j M).length) := Lib.hid (by rw [delC_len HF.out HM.out (by omega) hj]; omega)
          go_wp2_with (go_at_fn g; refine HCC.out.mono ?_; rintro e w3 ⟨rfl, b3⟩; have HO3 := Lib.hid (ownV_later HO.out b3); have HG3 := Lib.hid (grown_trans HG.out (grown_of_below b3 _)); have ci := HO3.out.cellAt i (by omega); rw [List.getElem?_eq_getElem HIL.out] at ci; have fi := HO3.out.frozenAt i; have HST := Lib.hid (HO3.out.stored i (.string y)); clear b3)
          go_roundw
          case rel => exact ⟨i + 1, j + 1, M', by go_num, by go_num, by omega, by omega, H3, Lib.hid (by have := H2.out; omega), Lib.hid (by have h9 := HST.out.1; rw [H1.out] at h9; exact h9), Lib.hid (grown_trans HG3.out HST.out.2)⟩
          case measure => simp [intOf]; omega
        | true =>
          rw [hq] at hcall
          have HCC := Lib.hid hcall
          obtain ⟨h1, h2⟩ := HSK.out hq
          have H1 := Lib.hid h1
          have H2 := Lib.hid h2
          clear hcall HSK HKE hq h1 h2
          go_wp2_with (go_at_fn g; refine HCC.out.mono ?_; rintro e w3 ⟨rfl, b3⟩; have HO3 := Lib.hid (ownV_later HO.out b3); have HG3 := Lib.hid (grown_trans HG.out (grown_of_below b3 _)); clear b3)
          go_roundw
          case rel => exact ⟨i, j + 1, M ++ [.string y], rfl, by go_num, by omega, by omega, Lib.hid (by rw [H2.out]; exact HF.out), Lib.hid (by have := HM.out; simp; omega), Lib.hid (by rw [← H1.out]; exact HO3.out), HG3⟩
          case measure => simp [intOf]; omega
      · have hd : decide ((j : Int) < (l.length : Int)) = false := decide_eq_false (by omega)
        obtain rfl : j = l.length := by omega
        have HLN := Lib.hid (delC_len HF.out HM.out (by omega) (Nat.le_refl _))
        have hcl : ∀ ty, (Builtin.clear_ #[34] ty #[.slice (some ⟨blk, i, none⟩) (l.length - i) (cap - i)]).run Tryz.prog wr = .ok (.tuple #[]) (wr.setCells blk i (List.replicate (l.length - i) (.string ⟨#[]⟩))) :=
          fun ty => Lib.run_clear_slice wr 34 9 ty (.string ⟨#[]⟩) Tryz.underlying34 (fun _ => rfl) rfl rfl blk i _ _ (by omega) (fun t ht => by rw [HO.out.cellAt (i + t) (by omega), List.getElem?_eq_getElem (by rw [HLN.out]; omega)]; first | rfl | done) (fun t ht => HO.out.frozenAt (i + t))
        obtain ⟨ys, h1, h2, h3⟩ := own_cells (List.replicate (l.length - i) (Value.string ⟨#[]⟩)) i wr _ HO.out
        have HE : Hid ((wr.setCells blk i (List.replicate (l.length - i) (Value.string ⟨#[]⟩))).ownsRow base 9 1 (.slice (some ⟨blk, 0, none⟩) i cap) i ((delL p l).map Value.string)) := Lib.hid (own_cut (m := i) h1 (by omega) (by have h9 := delC_take (M := M) HF.out; rw [Nat.mul_one] at h9 ⊢; rw [h2]; exact h9))
        have HG3 := Lib.hid (grown_trans HG.out h3)
        have HFL : Hid ((delL p l).length = i) := Lib.hid (by have := HF.out; rw [List.take_length] at this; exact this)
        clear h1 h2 h3
        go_wp2
        go_ret
        exact ⟨_, rfl, rfl, by rw [HFL.out]; exact HE.out, HG3.out⟩
set_option maxHeartbeats 800000 in
/-- slices.Clone of strings: a copy of the call's own. -/
theorem cloneS_any (l : List ByteArray) (hl : l.length ≤ 8388608) (v : Value) (w : World) (hv : ReadsS w.heap.size w v l) :
    Calls Tryz.prog 20 #[v] w fun e w' => ∃ v', e = .returned v' ∧ w'.ownsRow w.heap.size 9 1 v' l.length (l.map Value.string) ∧ Below w.heap.size w w' := by
  obtain ⟨i0, hi, hz0, hz1, hz2⟩ := info_parts infoStr
  have q22 : ∀ (w : World) (a : Option Addr) (n c n' c' : Nat), (binOp .eql 34 (.slice a n c) (.slice none n' c')).run Tryz.prog w = .ok (.bool a.isNone) w := fun w a n c n' c' => Lib.run_eql_slice_nil w _ _ a n c n' c' Tryz.underlying34
  have HV := Lib.hid hv
  obtain ⟨-, a0, cap, rfl, -, hc⟩ := hv.cells
  have HC := Lib.hid hc
  have HNIL := Lib.hid (nilV2 hv)
  have HONE : Hid (∀ u ∈ l.map Value.string, u.oneCell' = true) := Lib.hid (fun u hu => by obtain ⟨z, -, rfl⟩ := List.mem_map.1 hu; rfl)
  have HLEN : Hid ((l.map Value.string).length = l.length * 1) := Lib.hid (by simp)
  have HS0 := Lib.hid (fun o => srcV2 hv o)
  clear hc hv
  cases a0 with
  | none =>
    have h0 : l.length = 0 := by
      rcases Nat.eq_zero_or_pos l.length with h | h
      · exact h
      · obtain ⟨b, off, e, -⟩ := HC.out 0 h
        cases e
    obtain rfl := List.length_eq_zero_iff.1 h0
    have hc0 := HNIL.out rfl
    subst hc0
    clear h0
    go_enter Tryz.func20, Tryz.ntmps20
    go_wp2
    go_ret
    exact ⟨_, rfl, World.ownsRow_nil w _ _ _, Below.refl _ _⟩
  | some ad =>
    go_enter Tryz.func20, Tryz.ntmps20
    go_wp2_with (at_builtin; refine appendV_reads _ rfl _ _ 34 rfl w.heap.size 9 i0 (.string ⟨#[]⟩) 1 16 Tryz.underlying34 hi hz0 hz1 hz2 rfl (by decide) _ _ _ rfl (own_empty2 w 9 1) _ l.length cap (l.map Value.string) rfl HLEN.out HONE.out HNIL.out (HS0.out _) (by omega) (by omega) (le_alloc (Nat.le_refl _) _) ?_; intro v2 w2 hown hgrow; have HB2 := Lib.hid ((((Below.refl w.heap.size w).alloc (Nat.le_refl _) (.cells #[] 9))).grown hgrow (le_alloc (Nat.le_refl _) _) (fun k hk => by cases hk; exact Nat.le_refl _)))
    rw [Nat.zero_add, List.nil_append] at hown
    go_ret
    exact ⟨_, rfl, hown, HB2.out⟩
end Go.Proofs.YtgjijmcedonlmaaGreatDoor
