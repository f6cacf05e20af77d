/-
  The program's strike: its closure.
  The program's prune: slices.Contains at ints, what meets what.
  The program's prune.
  Prune of the program; Prune of both as the exact law's walk takes it.
-/
import Derived.Test.YtgjijmcedonlmaaGreatDoorSupI
import Derived.Test.YtgjijmcedonlmaaGreatDoorPruneT
import Derived.Test.YtgjijmcedonlmaaGreatDoorBoxN
import Derived.Test.YtgjijmcedonlmaaGreatDoorGridS
namespace Go.Proofs.YtgjijmcedonlmaaGreatDoor
open Go.RowKit

set_option maxRecDepth 100000 in
set_option maxHeartbeats 1600000 in
theorem str1_any (x : ByteArray) (n : Int) (Q : List DemV) (hl : Q.length ≤ 16777216) (hq : (x.size : Int) = n → DemOk Q x.size) (k bc bi bd bs ls cs nu cu : Nat) (au : Option Addr) (hk : k < ls) (w : World)
    (h0 : w.cell? ⟨bc, 0, none⟩ = some (.slice (some ⟨bs, 0, none⟩) ls cs)) (h1 : w.cell? ⟨bi, 0, none⟩ = some (.int .i64 (k : Int))) (h2 : w.cell? ⟨bs, k * 4 + 3, none⟩ = some (.int .i64 n)) (h3 : w.cell? ⟨bd, 0, none⟩ = some (.slice au nu cu))
    (hu : ReadsV w.heap.size w (.slice au nu cu) 2 Q.length (Q.flatMap cD)) :
    Calls Tryz.prog 84 #[.string x, .pointer (some ⟨bc, 0, none⟩), .pointer (some ⟨bi, 0, none⟩), .pointer (some ⟨bd, 0, none⟩)] w fun e w' => e = .returned (.bool (!okQ x n Q)) ∧ Below w.heap.size w w' := by
  have HHS := Lib.hid (fun W h => ihs_any x n Q hl hq (.slice au nu cu) W h)
  have HU := Lib.hid hu
  obtain ⟨t, ht⟩ : ∃ t, t = okQ x n Q := ⟨_, rfl⟩
  rw [← ht] at HHS ⊢
  have HS : Hid (∀ W, Below w.heap.size w W → W.cell? ⟨bc, 0, none⟩ = some (.slice (some ⟨bs, 0, none⟩) ls cs) ∧ W.cell? ⟨bi, 0, none⟩ = some (.int .i64 (k : Int)) ∧ W.cell? ⟨bs, k * 4 + 3, none⟩ = some (.int .i64 n) ∧ W.cell? ⟨bd, 0, none⟩ = some (.slice au nu cu)) := Lib.hid (fun W h =>
    ⟨(h.cell (p := ⟨bc, 0, none⟩) (World.block_lt_of_cell? w _ h0)).trans h0, (h.cell (p := ⟨bi, 0, none⟩) (World.block_lt_of_cell? w _ h1)).trans h1, (h.cell (p := ⟨bs, k * 4 + 3, none⟩) (World.block_lt_of_cell? w _ h2)).trans h2, (h.cell (p := ⟨bd, 0, none⟩) (World.block_lt_of_cell? w _ h3)).trans h3⟩)
  have hk9 : (k : Int) < (ls : Int) := by omega
  have hk0 : (0 : Int) ≤ (k : Int) := by omega
  clear ht hu h0 h1 h2 h3 hq
  go_enter Tryz.func84, Tryz.ntmps84
  go_wp2_with fail
  have hbn : Below w.heap.size w w := Below.refl _ _
  go_region_held3 (fun W => W.cell? ⟨bc, 0, none⟩ = some (.slice (some ⟨bs, 0, none⟩) ls cs) ∧ W.cell? ⟨bi, 0, none⟩ = some (.int .i64 (k : Int)) ∧ W.cell? ⟨bs, k * 4 + 3, none⟩ = some (.int .i64 n) ∧ W.cell? ⟨bd, 0, none⟩ = some (.slice au nu cu)) (first | exact HS.out _ hbn | exact HS.out _ hbn.drew) (first | (go_at_call 27; refine Calls.mono (HHS.out _ (by first | exact ReadsV.now HU.out hbn | exact ReadsV.now HU.out hbn.drew)) ?_; rintro e w6 ⟨rfl, b6⟩; have hbn : Below w.heap.size w w6 := (by first | exact hbn.trans (b6.mono hbn.size) | exact hbn.drew.trans (b6.mono hbn.size)); clear b6))
  all_goals go_wp2_with fail
  all_goals go_ret
  all_goals exact ⟨rfl, hbn⟩
/-- A row stored back where it stood: the blocks as before. -/
theorem OwnN.back {α : Type} {f : α → List Value} {s : Nat} {eo ei : TypeId} {W W' : World} {base top : Nat} {v : Value} {us : List Value} {L : List (List α)} {j : Nat} {u : Value} {m : List α} (h : OwnN f s eo ei W base top v us L) (hj : j < L.length)
    (hrow : W'.ownsRow base eo 1 v L.length (us.set j u)) (hu : W'.ownsRow base ei s u m.length (m.flatMap f))
    (hk : ∀ k, k < W.heap.size → v.ownBlock ≠ some k → u.ownBlock ≠ some k → (us.getD j undef).ownBlock ≠ some k → W'.heap[k]? = W.heap[k]?)
    (ha : u.ownBlock = (us.getD j undef).ownBlock) : OwnN f s eo ei W' base top v (us.set j u) (L.set j m) := by
  have h9 := h.put hj hrow hu hk (.inl ha)
  have hl := h.len
  refine ⟨h9.row, h9.inner, h.topv, fun i hi k e => ?_, h9.apart, h9.aparts⟩
  rw [List.length_set] at hi
  by_cases e1 : i = j
  · subst e1
    rw [getD_set_eq (by omega)] at e
    exact h.tops i hi k (ha ▸ e)
  · rw [getD_set_ne (Ne.symm e1)] at e
    exact h.tops i hi k e
set_option maxRecDepth 100000 in
set_option maxHeartbeats 3200000 in
theorem istr_any (l : List SlotV) (X : List CrossV) (C : List (List ByteArray)) (k : Nat) (hk : k < l.length) (hX36 : X.length ≤ 36) (hl72 : l.length ≤ 72) (hC : C.length = l.length) (hm : ∀ m ∈ C, m.length ≤ 1048576 ∧ ∀ z ∈ m, z.size ≤ 1048576) (hxf : XFor X l.length k (l.getD k none_Slot).2.2.2.toNat)
    (base T1 : Nat) (gs cs nm cm : Nat) (am : Option Addr) (g capd : Nat) (us : List Value) (w : World) (hT : T1 ≤ w.heap.size)
    (hsl : w.ownsRow T1 63 4 (.slice (some ⟨gs, 0, none⟩) l.length cs) l.length (row_Slot l)) (hmt : ReadsL cM 3 w.heap.size w (.slice am nm cm) (meetTo X l.length X.length))
    (hd : OwnN fS 1 34 9 w base T1 (.slice (some ⟨g, 0, none⟩) C.length capd) us C) :
    Calls Tryz.prog 42 #[.agg #[.slice (some ⟨gs, 0, none⟩) l.length cs, .slice am nm cm, .slice (some ⟨g, 0, none⟩) C.length capd], .int .i64 (k : Int)] w fun e w' =>
      e = .returned (.bool (decide (((C.getD k []).filter (okX l X C k)).length < (C.getD k []).length))) ∧ (∃ us', OwnN fS 1 34 9 w' base T1 (.slice (some ⟨g, 0, none⟩) C.length capd) us' (C.set k ((C.getD k []).filter (okX l X C k)))) ∧ KeptOut base T1 w w' := by
  have hkC : k < C.length := by omega
  have HMM : Hid ((meetTo X l.length X.length).getD k [] = meetS X k) := Lib.hid (by rw [meetTo_at X _ _ hk, List.take_length])
  have HML := Lib.hid (meetS_len X X.length k)
  rw [List.take_length] at HML
  have HDE : Hid (∀ W, Below w.heap.size w W → Calls Tryz.prog 28 #[.agg #[.slice (some ⟨gs, 0, none⟩) l.length cs, .slice am nm cm, .slice (some ⟨g, 0, none⟩) C.length capd], .int .i64 (k : Int)] W fun e w' => ∃ v', e = .returned v' ∧ w'.ownsRow W.heap.size 121 2 v' (demsOf C (meetS X k)).length ((demsOf C (meetS X k)).flatMap cD) ∧ Below W.heap.size W w') := Lib.hid (fun W hW => by
    have h9 := idem_any (.slice (some ⟨gs, 0, none⟩) l.length cs) (meetTo X l.length X.length) C k (by rw [meetTo_length]; exact hk) (by rw [HMM.out]; have := HML.out; omega) (by rw [HMM.out]; intro m hm9; rw [hC]; exact (meet_facts hxf hm9).2) hm ⟨_, _, _, rfl⟩ (.slice am nm cm) (.slice (some ⟨g, 0, none⟩) C.length capd) W (hmt.now hW) (ReadsN.now (OwnT.reads ⟨us, hd⟩ (by omega) (fun m hm9 => by have := (hm m hm9).1; omega)) hW)
    rw [HMM.out, show (meetS X k).length = (demsOf C (meetS X k)).length from (demsOf_length _ _).symm] at h9
    exact h9)
  have HQL : Hid ((demsOf C (meetS X k)).length ≤ 72) := Lib.hid (by rw [demsOf_length]; have := HML.out; omega)
  have HOKD : Hid (∀ x : ByteArray, okQ x (l.getD k none_Slot).2.2.2 (demsOf C (meetS X k)) = okX l X C k x) := Lib.hid (fun x => ok_dems hxf)
  have HDOK : Hid (∀ x : ByteArray, (x.size : Int) = (l.getD k none_Slot).2.2.2 → DemOk (demsOf C (meetS X k)) x.size) := Lib.hid (fun x e => dem_ok hxf e)
  obtain ⟨gs', egs, -, -, -, p3⟩ := slot_cells hsl rfl k hk
  injection egs with egs
  injection egs with egs
  subst egs
  have HP3 := Lib.hid p3
  have HSB2 := Lib.hid ((hsl.lt gs rfl).1)
  have hgc := hd.spot hkC
  obtain ⟨aj, cj, eu⟩ := ownV_slice (hd.inner k hkC)
  rw [eu] at hgc
  have HGC := Lib.hid hgc
  have HEU := Lib.hid eu
  have HHD := Lib.hid hd
  have HMK := Lib.hid (hm _ (show C.getD k [] ∈ C by simp [List.getD, hkC]))
  obtain ⟨M, hM⟩ : ∃ M, M = C.getD k [] := ⟨_, rfl⟩
  rw [← hM] at HGC HEU HMK ⊢
  have HMM2 := Lib.hid hM
  obtain ⟨Q, hQ⟩ : ∃ Q, Q = demsOf C (meetS X k) := ⟨_, rfl⟩
  rw [← hQ] at HDE HQL HOKD HDOK
  obtain ⟨p, hp⟩ : ∃ p : ByteArray → Bool, p = okX l X C k := ⟨_, rfl⟩
  rw [← hp] at HOKD ⊢
  obtain ⟨y, hy⟩ : ∃ y, y = (l.getD k none_Slot).2.2.2 := ⟨_, rfl⟩
  rw [← hy] at HOKD HDOK HP3
  have HT := Lib.hid hT
  have HKC := Lib.hid hkC
  have hk0 : (0 : Int) ≤ (k : Int) := by omega
  have hkn : (k : Int) < (C.length : Int) := by omega
  clear hM hQ hp hy hd hm hmt hsl p3 hgc eu hxf HMM HML hT hC hkC
  go_enter Tryz.func42, Tryz.ntmps42
  go_wp2_with fail
  obtain ⟨W1, hW1⟩ : ∃ W1, W1 = (w.alloc (.cells #[.slice (some ⟨gs, 0, none⟩) l.length cs, .slice am nm cm, .slice (some ⟨g, 0, none⟩) C.length capd] 50)).alloc (.cells #[.int .i64 (k : Int)] 3) := ⟨_, rfl⟩
  have HA : Hid (Below w.heap.size w W1) := Lib.hid (by rw [hW1]; exact ((Below.refl _ _).alloc (Nat.le_refl _) _).alloc (by simp) _)
  have hwa : W1.heap.size = w.heap.size + 2 := by rw [hW1]; simp
  have HS : Hid (∀ W, Below W1.heap.size W1 W → (W.cell? ⟨w.heap.size, 0, none⟩ = some (.slice (some ⟨gs, 0, none⟩) l.length cs) ∧ W.cell? ⟨w.heap.size, 1, none⟩ = some (.slice am nm cm) ∧ W.cell? ⟨w.heap.size, 2, none⟩ = some (.slice (some ⟨g, 0, none⟩) C.length capd)) ∧ W.cell? ⟨w.heap.size + 1, 0, none⟩ = some (.int .i64 (k : Int)) ∧ W.cell? ⟨g, k, none⟩ = some (.slice aj M.length cj)) := Lib.hid (fun W h =>
    ⟨⟨(h.cell (p := ⟨w.heap.size, 0, none⟩) (by show w.heap.size < _; omega)).trans (by rw [hW1]; simp), (h.cell (p := ⟨w.heap.size, 1, none⟩) (by show w.heap.size < _; omega)).trans (by rw [hW1]; simp), (h.cell (p := ⟨w.heap.size, 2, none⟩) (by show w.heap.size < _; omega)).trans (by rw [hW1]; simp)⟩, (h.cell (p := ⟨w.heap.size + 1, 0, none⟩) (by show w.heap.size + 1 < _; omega)).trans (by rw [hW1]; simp),
      ((HA.out.trans (h.mono HA.out.size)).cell (p := ⟨g, k, none⟩) (World.block_lt_of_cell? w _ HGC.out)).trans HGC.out⟩)
  have HWA := Lib.hid hwa
  rw [← hW1]
  clear hW1 hwa
  go_cut [5, 6] (fun pt bf wx => ∃ (bd : Nat) (ad : Option Addr) (cd : Nat), pt = .pointer (some ⟨bd, 0, none⟩) ∧ bf = .int .i64 (M.length : Int) ∧ Hid (wx.cell? ⟨bd, 0, none⟩ = some (.slice ad Q.length cd)) ∧ Hid (W1.heap.size ≤ bd) ∧ Hid (wx.ownsRow W1.heap.size 121 2 (.slice ad Q.length cd) Q.length (Q.flatMap cD)) ∧ Hid (Below W1.heap.size W1 wx))
  case first =>
    have hbn : Below W1.heap.size W1 W1 := Below.refl _ _
    go_region_held3 (fun W => (W.cell? ⟨w.heap.size, 0, none⟩ = some (.slice (some ⟨gs, 0, none⟩) l.length cs) ∧ W.cell? ⟨w.heap.size, 1, none⟩ = some (.slice am nm cm) ∧ W.cell? ⟨w.heap.size, 2, none⟩ = some (.slice (some ⟨g, 0, none⟩) C.length capd)) ∧ W.cell? ⟨w.heap.size + 1, 0, none⟩ = some (.int .i64 (k : Int)) ∧ W.cell? ⟨g, k, none⟩ = some (.slice aj M.length cj)) (first | exact HS.out _ hbn | exact HS.out _ hbn.drew | exact HS.out _ (hbn.alloc hbn.size _) | exact HS.out _ (hbn.alloc hbn.size _).drew | exact HS.out _ (hbn.setCell (p := ⟨W1.heap.size, 0, none⟩) (Nat.le_refl _) _) | exact HS.out _ (hbn.setCell (p := ⟨W1.heap.size, 0, none⟩) (Nat.le_refl _) _).drew) (first | (go_at_call 28; refine Calls.mono (HDE.out _ (HA.out.trans ((hbn.alloc hbn.size (.cells #[.slice none 0 0] 64)).drew.mono HA.out.size))) ?_; rintro e w5 ⟨v5, rfl, o5, b5⟩; obtain ⟨a5, c5, rfl⟩ := ownV_slice o5; have HBK := Lib.hid ((b5.block W1.heap.size (by show W1.heap.size < (W1.alloc _).heap.size; simp)).trans (new_block W1 (.cells #[.slice none 0 0] 64))); have hs5 : w5.cell? ⟨W1.heap.size, 0, none⟩ = some (.slice none 0 0) := Joins.cell_of_block HBK.out 0; have hf5 := Joins.unfrozen_of_block HBK.out 0; have HBL : w5.drew.heap[W1.heap.size]? = some (.cells #[.slice none 0 0] 64) := HBK.out; have hs5d : w5.drew.cell? ⟨W1.heap.size, 0, none⟩ = some (.slice none 0 0) := Joins.cell_of_block HBL 0; have hf5d := Joins.unfrozen_of_block HBL 0; clear HBL; have hbn : Below W1.heap.size W1 w5 := (hbn.alloc hbn.size (.cells #[.slice none 0 0] 64)).drew.trans (b5.mono (by show W1.heap.size ≤ (W1.alloc _).heap.size; simp)); have HLT := Lib.hid (fun q e => (o5.lt q e).1); have HO5 := Lib.hid (own_base o5 (show W1.heap.size ≤ (W1.alloc _).heap.size by simp)); clear o5 b5) | (go_at_call 28; refine Calls.mono (HDE.out _ (HA.out.trans (hbn.drew.mono HA.out.size))) ?_; rintro e w5 ⟨v5, rfl, o5, b5⟩; obtain ⟨a5, c5, rfl⟩ := ownV_slice o5; have hbn : Below W1.heap.size W1 w5 := hbn.drew.trans (b5.mono hbn.size); have nA := new_block w5 (.cells #[.slice none 0 0] 64); have hsA : (w5.alloc (.cells #[.slice none 0 0] 64)).cell? ⟨w5.heap.size, 0, none⟩ = some (.slice none 0 0) := Joins.cell_of_block nA 0; have hfA := Joins.unfrozen_of_block nA 0; have nB : (w5.alloc (.cells #[.slice none 0 0] 64)).drew.heap[w5.heap.size]? = some (.cells #[.slice none 0 0] 64) := nA; have hsB : (w5.alloc (.cells #[.slice none 0 0] 64)).drew.cell? ⟨w5.heap.size, 0, none⟩ = some (.slice none 0 0) := Joins.cell_of_block nB 0; have hfB := Joins.unfrozen_of_block nB 0; have nC := new_block w5.drew (.cells #[.slice none 0 0] 64); have hsC : (w5.drew.alloc (.cells #[.slice none 0 0] 64)).cell? ⟨w5.heap.size, 0, none⟩ = some (.slice none 0 0) := Joins.cell_of_block nC 0; have hfC := Joins.unfrozen_of_block nC 0; have nD : (w5.drew.alloc (.cells #[.slice none 0 0] 64)).drew.heap[w5.drew.heap.size]? = some (.cells #[.slice none 0 0] 64) := nC; have hsD : (w5.drew.alloc (.cells #[.slice none 0 0] 64)).drew.cell? ⟨w5.heap.size, 0, none⟩ = some (.slice none 0 0) := Joins.cell_of_block nD 0; have hfD := Joins.unfrozen_of_block nD 0; clear nA nB nC nD; have HO5 := Lib.hid (own_base o5 (show W1.heap.size ≤ W1.drew.heap.size from Nat.le_refl _)); clear o5 b5))
    all_goals (go_wp2_with fail; go_meet)
    · exact ⟨w5.heap.size, a5, c5, rfl, rfl, Lib.hid (by simp), Lib.hid hbn.size, Lib.hid (HO5.out.alloc _), Lib.hid (hbn.alloc hbn.size _)⟩
    · refine ⟨W1.heap.size, a5, c5, rfl, rfl, Lib.hid (Joins.cell_of_block (Joins.block_setCell (i := 0) HBK.out _) 0), Lib.hid (Nat.le_refl _), Lib.hid (ownV_block HO5.out fun q e => heap_setCell_other w5 ⟨W1.heap.size, 0, none⟩ q _ (fun e9 => ?_)), Lib.hid (hbn.setCell (p := ⟨W1.heap.size, 0, none⟩) (Nat.le_refl _) _)⟩
      have h9 := HLT.out q e
      have h8 : (W1.alloc (.cells #[.slice none 0 0] 64)).heap.size = W1.heap.size + 1 := by simp
      rw [e9, show (W1.alloc (.cells #[.slice none 0 0] 64)).drew.heap.size = W1.heap.size + 1 from h8] at h9
      exact absurd h9 (by show ¬ W1.heap.size + 1 ≤ W1.heap.size; omega)
  case rest =>
    obtain ⟨bd, ad, cd, rfl, rfl, HBD, HBS, HOQ, HB⟩ := hcut
    obtain ⟨wb, rfl⟩ : ∃ wb, wb = wc := ⟨wc, rfl⟩
    have HWB := Lib.hid (HA.out.trans (HB.out.mono HA.out.size))
    have HSB := Lib.hid (HS.out wb HB.out)
    have HNB := Lib.hid (HHD.out.later HT.out HWB.out)
    have HRB := Lib.hid (own_sF (HNB.out.inner k HKC.out))
    rw [HEU.out, ← HMM2.out] at HRB
    have HRT : Hid (∀ q, (Value.slice aj M.length cj).ownBlock = some q → base ≤ q ∧ q < T1) := Lib.hid (fun q e => ⟨(HRB.out.lt q e).1, HHD.out.tops k HKC.out q (by rw [HEU.out]; exact e)⟩)
    have HRG : Hid ((Value.slice aj M.length cj).ownBlock ≠ some g) := Lib.hid (by have h9 := HHD.out.apart k HKC.out g rfl; rw [HEU.out] at h9; exact h9)
    have eg : ∀ args w, (callFunc 84 args).run Tryz.prog w = .ok (.enter 84 args) w := enters_of Tryz.func84 (by kernel_rfl) rfl
    have HKQ : Hid (∀ W, wb.grownBy W (Value.slice aj M.length cj).ownBlock → ∀ q, T1 ≤ q → q < wb.heap.size → W.heap[q]? = wb.heap[q]?) := Lib.hid (fun W h q h1 h2 => h.block q h2 (fun e => by have := (HRT.out q e.symm).2; omega))
    have HQB : Hid (∀ q, (Value.slice ad Q.length cd).ownBlock = some q → T1 ≤ q ∧ q < wb.heap.size) := Lib.hid (fun q e => by have h9 := HOQ.out.lt q e; have := HA.out.size; have := HT.out; exact ⟨by omega, h9.2⟩)
    have HBL : Hid (bd < wb.heap.size) := Lib.hid (World.block_lt_of_cell? wb _ HBD.out)
    have HPR : Hid (∀ W, wb.grownBy W (Value.slice aj M.length cj).ownBlock → PredS Tryz.prog 84 #[.pointer (some ⟨w.heap.size, 0, none⟩), .pointer (some ⟨w.heap.size + 1, 0, none⟩), .pointer (some ⟨bd, 0, none⟩)] (fun x => !p x) M W (Value.slice aj M.length cj).ownBlock) := Lib.hid (fun W0 hW0 W z hz hW => by
      have hg := grown_trans hW0 hW
      have hz1 := HWB.out.size
      have hz2 := HT.out
      have hz3 := HA.out.size
      have hz4 := HB.out.size
      have hz5 := HWA.out
      have hsb := HSB.out
      have hne : ∀ q, T1 ≤ q → some q ≠ (Value.slice aj M.length cj).ownBlock := fun q h1 e => by have := (HRT.out q e.symm).2; omega
      have h9 := str1_any z y Q (by have := HQL.out; omega) (HDOK.out z) k w.heap.size (w.heap.size + 1) bd gs l.length cs Q.length cd ad hk W (hg.cell hsb.1.1 (hne _ hz2)) (hg.cell hsb.2.1 (hne _ (by show T1 ≤ w.heap.size + 1; omega))) (hg.cell ((HWB.out.cell (p := ⟨gs, k * 4 + 3, none⟩) (World.block_lt_of_cell? w _ HP3.out)).trans HP3.out) (hne _ HSB2.out)) (hg.cell HBD.out (hne _ (by have := HBS.out; show T1 ≤ bd; omega)))
        (readsV_own (ownV_block HOQ.out fun q e => HKQ.out W hg q (HQB.out q e).1 (HQB.out q e).2) (by have := HQL.out; omega))
      rw [HOKD.out] at h9
      exact h9)
    have HDL : Hid (∀ W, wb.grownBy W (Value.slice aj M.length cj).ownBlock → W.ownsRow base 9 1 (Value.slice aj M.length cj) M.length (M.map Value.string) → Calls Tryz.prog 83 #[(Value.slice aj M.length cj), .func (.func 84) #[] #[.pointer (some ⟨w.heap.size, 0, none⟩), .pointer (some ⟨w.heap.size + 1, 0, none⟩), .pointer (some ⟨bd, 0, none⟩)]] W fun e w' => ∃ v', e = .returned v' ∧ v'.ownBlock = (Value.slice aj M.length cj).ownBlock ∧ w'.ownsRow base 9 1 v' (M.filter p).length ((M.filter p).map Value.string) ∧ W.grownBy w' (Value.slice aj M.length cj).ownBlock) := Lib.hid (fun W hW hown => by
      have h9 := delS_any 84 #[.pointer (some ⟨w.heap.size, 0, none⟩), .pointer (some ⟨w.heap.size + 1, 0, none⟩), .pointer (some ⟨bd, 0, none⟩)] eg (fun x => !p x) M (by have := HMK.out.1; omega) base (Value.slice aj M.length cj) W hown (HPR.out W hW)
      rw [show delL (fun x => !p x) M = M.filter p from by unfold delL; simp] at h9
      exact h9)
    have HSS : Hid (∀ W, wb.grownBy W (Value.slice aj M.length cj).ownBlock → (W.cell? ⟨w.heap.size, 0, none⟩ = some (.slice (some ⟨gs, 0, none⟩) l.length cs) ∧ W.cell? ⟨w.heap.size, 1, none⟩ = some (.slice am nm cm) ∧ W.cell? ⟨w.heap.size, 2, none⟩ = some (.slice (some ⟨g, 0, none⟩) C.length capd)) ∧ W.cell? ⟨w.heap.size + 1, 0, none⟩ = some (.int .i64 (k : Int)) ∧ W.cell? ⟨g, k, none⟩ = some (.slice aj M.length cj)) := Lib.hid (fun W hg => by
      have hz2 := HT.out
      have hsb := HSB.out
      have hne : ∀ q, T1 ≤ q → some q ≠ (Value.slice aj M.length cj).ownBlock := fun q h1 e => by have := (HRT.out q e.symm).2; omega
      exact ⟨⟨hg.cell hsb.1.1 (hne _ hz2), hg.cell hsb.1.2.1 (hne _ hz2), hg.cell hsb.1.2.2 (hne _ hz2)⟩, hg.cell hsb.2.1 (hne _ (by show T1 ≤ w.heap.size + 1; omega)), hg.cell hsb.2.2 (fun e => HRG.out e.symm)⟩)
    have HRR : Hid (∀ W, wb.grownBy W (Value.slice aj M.length cj).ownBlock → W.ownsRow base 34 1 (.slice (some ⟨g, 0, none⟩) C.length capd) C.length us) := Lib.hid (fun W hg => ownV_block HNB.out.row fun q e => hg.block q (HNB.out.row.lt q e).2 (fun e9 => by cases e; exact HRG.out e9.symm))
    have hmf := hs1_val
    have HEL := Lib.hid HHD.out.len
    clear eg
    go_wp2_with fail
    go_cut [] (fun wx => ∃ (us' : List Value) (a6 : Option Addr) (c6 : Nat), Hid (OwnN fS 1 34 9 wx base T1 (.slice (some ⟨g, 0, none⟩) C.length capd) us' (C.set k (M.filter p))) ∧ Hid (KeptOut base T1 w wx) ∧ wx.cell? ⟨w.heap.size, 2, none⟩ = some (.slice (some ⟨g, 0, none⟩) C.length capd) ∧ wx.cell? ⟨w.heap.size + 1, 0, none⟩ = some (.int .i64 (k : Int)) ∧ wx.cell? ⟨g, k, none⟩ = some (.slice a6 (M.filter p).length c6))
    case first =>
      have hgk : wb.cell? ⟨g, k, none⟩ = some (.slice aj M.length cj) := HSB.out.2.2
      have hgkd : wb.drew.cell? ⟨g, k, none⟩ = some (.slice aj M.length cj) := HSB.out.2.2
      refine wp_region_held_drew (S := (fun W => (W.cell? ⟨w.heap.size, 0, none⟩ = some (.slice (some ⟨gs, 0, none⟩) l.length cs) ∧ W.cell? ⟨w.heap.size, 1, none⟩ = some (.slice am nm cm) ∧ W.cell? ⟨w.heap.size, 2, none⟩ = some (.slice (some ⟨g, 0, none⟩) C.length capd)) ∧ W.cell? ⟨w.heap.size + 1, 0, none⟩ = some (.int .i64 (k : Int)))) (by kernel_rfl) ?_ (fun hHeld => ?_)
      · exact ⟨HSB.out.1, HSB.out.2.1⟩
      refine wpAnyH_take (i := 0) (v := ?_) rfl (by kernel_rfl) (by kernel_rfl) (by kernel_rfl) (fun _ _ _ h => h) (Or.inl ⟨by rfl, ?_⟩) (by assumption) ?_
      rotate_left
      · intro w9 hSw
        try dsimp only at hSw
        go_simp
        all_goals with_reducible rfl
      try simp only [Act.put, List.setIfInBounds_toArray]
      refine wpAnyH_take (i := 1) (v := ?_) rfl (by kernel_rfl) (by kernel_rfl) (by kernel_rfl) (fun _ _ _ h => h) (Or.inl ⟨by rfl, ?_⟩) (by assumption) ?_
      rotate_left
      · intro w9 hSw
        try dsimp only at hSw
        go_simp
        all_goals with_reducible rfl
      try simp only [Act.put]
      refine wpAnyH_take (i := 2) (v := ?_) rfl (by kernel_rfl) (by kernel_rfl) (by kernel_rfl) (fun _ _ _ h => h) (Or.inl ⟨by rfl, ?_⟩) (by assumption) ?_
      rotate_left
      · intro w9 hSw
        try dsimp only at hSw
        go_simp
        all_goals with_reducible rfl
      try simp only [Act.put]
      refine wpAnyH_take (i := 3) (v := ?_) rfl (by kernel_rfl) (by kernel_rfl) (by kernel_rfl) (fun _ _ _ h => h) (Or.inl ⟨by rfl, ?_⟩) (by assumption) ?_
      rotate_left
      · intro w9 hSw
        try dsimp only at hSw
        go_simp
        all_goals with_reducible rfl
      try simp only [Act.put]
      refine wpAnyH_take (i := 4) (v := ?_) rfl (by kernel_rfl) (by kernel_rfl) (by kernel_rfl) (fun _ _ _ h => h) (Or.inl ⟨by rfl, ?_⟩) (by assumption) ?_
      rotate_left
      · intro w9 hSw
        try dsimp only at hSw
        go_simp
        all_goals with_reducible rfl
      try simp only [Act.put]
      refine wpAnyH_take (i := 5) (v := ?_) rfl (by kernel_rfl) (by kernel_rfl) (by kernel_rfl) (fun _ _ _ h => h) (Or.inl ⟨by rfl, ?_⟩) (by assumption) ?_
      rotate_left
      · intro w9 hSw
        try dsimp only at hSw
        go_simp
        all_goals with_reducible rfl
      try simp only [Act.put]
      refine wpAnyH_take (i := 6) (v := ?_) rfl (by kernel_rfl) (by kernel_rfl) (by kernel_rfl) (fun _ _ _ h => h) (Or.inl ⟨by rfl, ?_⟩) (by assumption) ?_
      rotate_left
      · intro w9 hSw
        try dsimp only at hSw
        go_simp
        all_goals with_reducible rfl
      try simp only [Act.put]
      refine wpAnyH_take (i := 8) (v := ?_) rfl (by kernel_rfl) (by kernel_rfl) (by kernel_rfl) (fun _ _ _ h => h) (Or.inl ⟨by rfl, ?_⟩) (by assumption) ?_
      rotate_left
      · intro w9 hSw
        try dsimp only at hSw
        go_simp
        all_goals with_reducible rfl
      try simp only [Act.put]
      refine wpAnyH_ready (rs := [7]) (by kernel_rfl) (by simp) ?_
      refine AllReadyH.cons rfl (fun K hK => ?_) ?_
      · go_simp
        refine hK.out _ _ ?_ (fun hHeld2 => ?_)
        · (try dsimp only)
          exact ⟨HSB.out.1, HSB.out.2.1⟩
        clear hK K hHeld
        have hHeld := hHeld2
        clear hHeld2
        refine wpAnyH_ready (rs := [9]) (by kernel_rfl) (by simp) ?_
        refine AllReadyH.cons rfl (fun K hK => ?_) ?_
        · go_simp
          go_at_call 83
          refine Calls.mono (HDL.out _ ⟨rfl, rfl, rfl, Nat.le_refl _, fun _ _ _ => rfl⟩ HRB.out.drew) ?_
          rintro e w6 ⟨v6, rfl, hob, o6, hg6⟩
          obtain ⟨a6, c6, rfl⟩ := ownV_slice o6
          have HG6 : Hid (wb.grownBy w6 (Value.slice aj M.length cj).ownBlock) := Lib.hid ⟨hg6.os, hg6.tape, hg6.output, hg6.size, hg6.block⟩
          have HO6 := Lib.hid o6
          have HOB := Lib.hid hob
          have hS6 := HSS.out w6 HG6.out
          have c6k := hS6.2.2
          have HR6 := Lib.hid (HRR.out w6 HG6.out)
          have hf6 := HR6.out.frozenAt k
          clear hob o6 hg6
          (try go_wp2_with fail)
          refine hK.out _ _ ?_ (fun hHeld2 => ?_)
          · (try dsimp only)
            exact ⟨hS6.1, hS6.2.1⟩
          clear hK K hHeld
          have hHeld := hHeld2
          clear hHeld2
          have hst := HR6.out.stored k (.slice a6 (M.filter p).length c6)
          have HS7 := Lib.hid hst
          clear hst
          have hS7 := (fun (q : Nat) (x : Value) (j : Nat) (h : w6.cell? ⟨q, j, none⟩ = some x) (hne : q ≠ g) => HS7.out.2.cell (a := ⟨q, j, none⟩) h (fun e => hne (by injection e)))
          have hgT : base ≤ g ∧ g < T1 := ⟨(HNB.out.low g rfl).1, HHD.out.topv g rfl⟩
          have hwT := HT.out
          have x0 := hS7 _ _ _ hS6.1.1 (by omega)
          have x1 := hS7 _ _ _ hS6.1.2.1 (by omega)
          have x2 := hS7 _ _ _ hS6.1.2.2 (by omega)
          have x3 := hS7 _ _ _ hS6.2.1 (by omega)
          clear hS7
          refine wpAnyH_take (i := 10) (v := ?_) rfl (by kernel_rfl) (by kernel_rfl) (by kernel_rfl) (fun _ _ _ h => h) (Or.inl ⟨by rfl, ?_⟩) (by assumption) ?_
          rotate_left
          · intro w9 hSw
            try dsimp only at hSw
            go_simp
            all_goals with_reducible rfl
          try simp only [Act.put, List.setIfInBounds_toArray]
          refine wpAnyH_ready (rs := [11]) (by kernel_rfl) (by simp) ?_
          refine AllReadyH.cons rfl (fun K hK => ?_) ?_
          · go_simp
            refine hK.out _ _ ?_ (fun hHeld2 => ?_)
            · (try dsimp only)
              exact ⟨⟨x0, x1, x2⟩, x3⟩
            clear hK K hHeld
            have hHeld := hHeld2
            clear hHeld2
            refine wpAnyH_done (by kernel_rfl) ?_ _
            go_wp2_with fail
            go_meet
            have hst2 := HS7.out
            have hl9 := HEL.out
            have hkc := HKC.out
            have HN7 := OwnN.back (m := M.filter p) HNB.out hkc hst2.1 (own_fS (ownV_block HO6.out fun q e => heap_setCell_other w6 ⟨g, k, none⟩ q _ (fun e9 => HRG.out (by rw [← HOB.out, e, e9])))) (fun q h1 h2 h3 _ => (heap_setCell_other w6 ⟨g, k, none⟩ q _ (fun e9 => h2 (by rw [e9]; rfl))).trans (HG6.out.block q h1 (fun e9 => h3 (by rw [HOB.out]; exact e9.symm)))) (by rw [HEU.out]; exact HOB.out)
            have HK7 := ((⟨HWB.out.os, HWB.out.tape, HWB.out.output, HWB.out.size, fun q hq _ => HWB.out.block q hq⟩ : KeptOut base T1 w wb).trans (KeptOut.of_grown HG6.out HRT.out)).trans (KeptOut.of_grown hst2.2 (fun q e => by cases e; exact hgT))
            have x4 := HN7.spot (j := k) (by rw [List.length_set]; exact hkc)
            rw [getD_set_eq (by omega)] at x4
            exact ⟨_, a6, c6, Lib.hid HN7, Lib.hid HK7, x2, x3, x4⟩
          exact AllReadyH.nil
        exact AllReadyH.nil
      exact AllReadyH.nil
    case rest =>
      obtain ⟨us', a6, c6, HN, HK, e2, e1, e4⟩ := hcut
      obtain ⟨FL, hFL⟩ : ∃ FL, FL = M.filter p := ⟨_, rfl⟩
      have HFE := Lib.hid hFL
      rw [← hFL] at HN e4
      have HD9 : Hid (decide ((FL.length : Int) < (M.length : Int)) = decide (FL.length < M.length)) := Lib.hid (by simp)
      have hkn2 : (k : Int) < ((C.set k FL).length : Int) := by rw [List.length_set]; exact hkn
      clear hFL
      go_wp2_with fail
      go_ret
      rw [← HFE.out]
      exact ⟨by rw [← HD9.out]; rfl, ⟨us', HN.out⟩, HK.out⟩
end Go.Proofs.YtgjijmcedonlmaaGreatDoor
namespace Go.Proofs.YtgjijmcedonlmaaGreatDoor
open Go.RowKit

def cN (j : Nat) : Value := .int .i64 (j : Int)
set_option maxHeartbeats 800000 in
theorem idxNat_any (l : List Nat) (x : Nat) (hl : l.length ≤ 16777216) (v : Value) (w : World) (hv : ReadsV w.heap.size w v 1 l.length (l.map cN)) :
    Calls Tryz.prog 85 #[v, .int .i64 (x : Int)] w fun e w' => (∃ r : Int, e = .returned (.int .i64 r) ∧ (0 ≤ r ↔ x ∈ l)) ∧ w = w' := by
  obtain ⟨-, -, a0, cap, rfl, -, hc⟩ := hv
  have HC := Lib.hid hc
  clear hc
  go_enter Tryz.func85, Tryz.ntmps85
  go_wp2
  go_loop [8] (fun i => ∃ k : Nat, k ≤ l.length ∧ i = .int .i64 (k : Int) ∧ Hid (∀ y ∈ l.take k, y ≠ x)) (fun i => l.length - (intOf i).toNat)
  case atStart => exact ⟨0, Nat.zero_le _, rfl, Lib.hid (by simp)⟩
  case round =>
    obtain ⟨k, hk, rfl, HN⟩ := hrel
    by_cases hlt : k < l.length
    · obtain ⟨b, off, rfl, hb, q0⟩ := HC.out k (by omega)
      rw [List.getElem?_map, List.getElem?_eq_getElem hlt] at q0
      have q1 : w.cell? ⟨b, off + k, none⟩ = some (.int .i64 ((l[k] : Nat) : Int)) := q0
      clear q0
      have HT : Hid (l.take (k + 1) = l.take k ++ [l[k]]) := Lib.hid (List.take_succ_eq_append_getElem hlt)
      have HM : Hid (l[k] ∈ l) := Lib.hid (List.getElem_mem hlt)
      obtain ⟨z, hz⟩ : ∃ z, z = l[k] := ⟨_, rfl⟩
      rw [← hz] at q1 HT HM
      clear hz
      have hd : decide ((k : Int) < (l.length : Int)) = true := decide_eq_true (by omega)
      by_cases he : z = x
      · subst he
        have HF : Hid ((0 : Int) ≤ (k : Int) ↔ z ∈ l) := Lib.hid ⟨fun _ => HM.out, fun _ => by omega⟩
        go_wp2
        go_ret
        first | exact ⟨⟨_, rfl, HF.out⟩, rfl⟩ | exact ⟨HF.out, rfl⟩ | exact HF.out
      · have hne : (((x : Nat) : Int) == ((z : Nat) : Int)) = false := beq_eq_false_iff_ne.2 (by omega)
        have hne2 : (((z : Nat) : Int) == ((x : Nat) : Int)) = false := beq_eq_false_iff_ne.2 (by omega)
        have HN2 : Hid (∀ y ∈ l.take (k + 1), y ≠ x) := Lib.hid (fun y hy => by
          rw [HT.out] at hy
          rcases List.mem_append.1 hy with h | h
          · exact HN.out y h
          · simp only [List.mem_singleton] at h; subst h; exact he)
        clear he
        go_wp2
        go_round
        case rel => exact ⟨k + 1, by omega, by go_num, HN2⟩
        case measure => simp [intOf]; omega
    · have hd : decide ((k : Int) < (l.length : Int)) = false := decide_eq_false (by omega)
      have HF : Hid ((0 : Int) ≤ -1 ↔ x ∈ l) := Lib.hid ⟨fun h => absurd h (by decide), fun h => absurd rfl (HN.out x (by rw [List.take_of_length_le (by omega)]; exact h))⟩
      go_wp2
      go_ret
      first | exact ⟨⟨-1, rfl, HF.out⟩, rfl⟩ | exact ⟨HF.out, rfl⟩ | exact HF.out
theorem contN_any (l : List Nat) (x : Nat) (hl : l.length ≤ 16777216) (v : Value) (w : World) (hv : ReadsV w.heap.size w v 1 l.length (l.map cN)) :
    Calls Tryz.prog 43 #[v, .int .i64 (x : Int)] w fun e w' => e = .returned (.bool (decide (x ∈ l))) ∧ w = w' := by
  have HI := Lib.hid (idxNat_any l x hl v w hv)
  obtain ⟨-, -, a, c, rfl, -, -⟩ := hv
  go_enter Tryz.func43, Tryz.ntmps43
  go_wp2_with (go_at_call 85; refine HI.out.mono ?_; rintro e w1 ⟨⟨r, rfl, hr⟩, rfl⟩; have HR : Hid (decide (r ≥ 0) = decide (x ∈ l)) := Lib.hid (by simp only [ge_iff_le, hr]); clear hr)
  go_ret
  exact ⟨by rw [← HR.out]; rfl, rfl⟩
/-- What meets: a slot of another one, and the other way round. -/
theorem meet_turn {X : List CrossV} {n : Nat} (h : ∀ x ∈ X, ∃ i j p r q : Nat, x = ((i : Int), (j : Int), (p : Int), (r : Int), (q : Int)) ∧ i < j ∧ j < n) {i j : Nat} (hm : ∃ u ∈ meetS X i, u.2.1 = j) : i ≠ j ∧ ∃ u ∈ meetS X j, u.2.1 = i := by
  obtain ⟨u, hu, rfl⟩ := hm
  unfold meetS at hu
  obtain ⟨x, hx, hux⟩ := List.mem_flatMap.1 hu
  obtain ⟨a, b, p, r, q, rfl, hab, hbn⟩ := h x hx
  unfold meetX at hux
  rcases List.mem_append.1 hux with h1 | h1
  · split at h1
    · rename_i e
      have e : (a : Int) = (i : Int) := e
      rw [List.mem_singleton.1 h1]
      refine ⟨by show i ≠ (Int.toNat (b : Int)); omega, ((r : Int).toNat, (a : Int).toNat, (p : Int).toNat), ?_, by show (a : Int).toNat = i; omega⟩
      unfold meetS
      refine List.mem_flatMap.2 ⟨_, hx, ?_⟩
      unfold meetX
      refine List.mem_append.2 (.inr ?_)
      rw [if_pos (by show (b : Int) = (((b : Int).toNat : Nat) : Int); omega)]
      simp
    · cases h1
  · split at h1
    · rename_i e
      have e : (b : Int) = (i : Int) := e
      rw [List.mem_singleton.1 h1]
      refine ⟨by show i ≠ (Int.toNat (a : Int)); omega, ((p : Int).toNat, (b : Int).toNat, (r : Int).toNat), ?_, by show (b : Int).toNat = i; omega⟩
      unfold meetS
      refine List.mem_flatMap.2 ⟨_, hx, ?_⟩
      unfold meetX
      refine List.mem_append.2 (.inl ?_)
      rw [if_pos (by show (a : Int) = (((a : Int).toNat : Nat) : Int); omega)]
      simp
    · cases h1
/-- A slot whose words are looked at: the others that do not meet it keep theirs. -/
theorem keep_ok {l : List SlotV} {X : List CrossV} {n : Nat} (hX : ∀ x ∈ X, ∃ i j p r q : Nat, x = ((i : Int), (j : Int), (p : Int), (r : Int), (q : Int)) ∧ i < j ∧ j < n) {C : List (List ByteArray)} {i j : Nat} {m : List ByteArray} (hj : ¬ ∃ u ∈ meetS X i, u.2.1 = j) (z : ByteArray) : okX l X (C.set i m) j z = okX l X C j z :=
  okX_set fun u hu e => hj (meet_turn hX ⟨u, hu, e⟩).2
theorem self_ok {X : List CrossV} {n : Nat} (hX : ∀ x ∈ X, ∃ i j p r q : Nat, x = ((i : Int), (j : Int), (p : Int), (r : Int), (q : Int)) ∧ i < j ∧ j < n) (i : Nat) : ¬ ∃ u ∈ meetS X i, u.2.1 = i := fun h => (meet_turn hX h).1 rfl
end Go.Proofs.YtgjijmcedonlmaaGreatDoor
namespace Go.Proofs.YtgjijmcedonlmaaGreatDoor
open Go.RowKit

theorem info_int9 : (Tryz.prog.info? 3).map (fun i => (i.zero, i.size, i.bytes)) = some (some (.int .i64 0), 1, 8) := by kernel_rfl
/-- The slots that do not wait have only words with support. -/
def Rest (l : List SlotV) (X : List CrossV) (E : List (List ByteArray)) (Q : List Nat) : Prop := Q.Nodup ∧ (∀ j ∈ Q, j < l.length) ∧ ∀ j, j < l.length → j ∉ Q → ∀ z ∈ E.getD j [], okX l X E j z = true
theorem nodup_le : ∀ (n : Nat) (Q : List Nat), Q.Nodup → (∀ j ∈ Q, j < n) → Q.length ≤ n
  | 0, Q, _, h => by
    cases Q with
    | nil => exact Nat.le_refl _
    | cons a Q => exact absurd (h a (List.mem_cons_self ..)) (Nat.not_lt_zero a)
  | n + 1, Q, hn, h => by
    by_cases hm : n ∈ Q
    · have h1 := nodup_le n (Q.erase n) (hn.erase n) (fun j hj => by
        have h2 := h j (List.mem_of_mem_erase hj)
        have h3 : j ≠ n := fun e => hn.not_mem_erase (e ▸ hj)
        omega)
      rw [List.length_erase_of_mem hm] at h1
      omega
    · have h1 := nodup_le n Q hn (fun j hj => by
        have h2 := h j hj
        have h3 : j ≠ n := fun e => hm (e ▸ hj)
        omega)
      omega
theorem OwnQ.head {w : World} {base n cap g o : Nat} {e : TypeId} {x : Value} {xs : List Value} (h : OwnQ w base e (.slice (some ⟨g, o, none⟩) (n + 1) cap) (n + 1) (x :: xs)) (hn : n + 1 ≤ 140737488355328) : w.cell? ⟨g, o, none⟩ = some x := by
  obtain ⟨-, -, a0, c0, e0, -, hc⟩ := h.reads hn
  injection e0 with e1 e2 e3
  subst e1
  obtain ⟨b, off, e4, -, e5⟩ := hc 0 (by omega)
  injection e4 with e4
  injection e4 with e6 e7
  subst e6 e7
  exact e5
/-- The row of a slot's meetings: where it lies, and its cells, as long as the rows stand. -/
theorem meet_row {eo ei : TypeId} {w : World} {base top nm cm s : Nat} {am : Option Addr} {ums : List Value} {L : List (List (Nat × Nat × Nat))} (h : OwnN cM 3 eo ei w base top (.slice am nm cm) ums L) (hs : s < L.length) (hsm : (L.getD s []).length ≤ 140737488355328) :
    ∃ gm aj cj, am = some ⟨gm, 0, none⟩ ∧ nm = L.length ∧ ∀ W top', OwnN cM 3 eo ei W base top' (.slice am nm cm) ums L → W.cell? ⟨gm, s, none⟩ = some (.slice aj (L.getD s []).length cj) ∧
      ∀ k, k < (L.getD s []).length → ∃ b, aj = some ⟨b, 0, none⟩ ∧ W.cell? ⟨b, k * 3, none⟩ = some (.int .i64 (((L.getD s []).getD k (0, 0, 0)).1 : Int)) ∧ W.cell? ⟨b, k * 3 + 1, none⟩ = some (.int .i64 (((L.getD s []).getD k (0, 0, 0)).2.1 : Int)) ∧ W.cell? ⟨b, k * 3 + 2, none⟩ = some (.int .i64 (((L.getD s []).getD k (0, 0, 0)).2.2 : Int)) := by
  obtain ⟨gm, e1, e2, -, -, -⟩ := h.cell hs
  obtain ⟨aj, cj, e3⟩ := ownV_slice (h.inner s hs)
  refine ⟨gm, aj, cj, e1, e2, fun W top' hW => ?_⟩
  obtain ⟨g', e1', -, hc, -, -⟩ := hW.cell hs
  rw [e1] at e1'
  injection e1' with e1'
  injection e1' with e1'
  subst e1'
  refine ⟨by rw [hc, e3], fun k hk => ?_⟩
  have hi := hW.inner s hs
  rw [e3] at hi
  obtain ⟨b, c', e4⟩ := Joins.ownsRow_form hi (by omega)
  injection e4 with e5 e6 e7
  obtain ⟨a0, cap, e8, hcells⟩ := row3_cells (readsV_own hi hsm)
  injection e8 with e9 e10 e11
  obtain ⟨b', off, f1, -, f2, f3, f4⟩ := hcells k hk
  rw [← e9, e5] at f1
  injection f1 with f1
  injection f1 with f1 f1'
  subst f1 f1'
  rw [Nat.zero_add] at f2 f3 f4
  exact ⟨b, e5, f2, f3, f4⟩
theorem KeptOut.grow {base top : Nat} {a w w' : World} {r : Option Nat} (h : KeptOut base top a w) (hg : w.grownBy w' r) (hr : ∀ k, r = some k → a.heap.size ≤ k) : KeptOut base top a w' :=
  ⟨hg.os.trans h.os, hg.tape.trans h.tape, hg.output.trans h.output, Nat.le_trans h.size hg.size, fun k h1 h2 => (hg.block k (Nat.lt_of_lt_of_le h1 h.size) (fun e => by have := hr k e.symm; omega)).trans (h.block k h1 h2)⟩
theorem OwnN.grow {α : Type} {f : α → List Value} {s : Nat} {eo ei : TypeId} {W W' : World} {base top : Nat} {v : Value} {us : List Value} {L : List (List α)} {r : Option Nat} (h : OwnN f s eo ei W base top v us L) (ht : top ≤ W.heap.size) (hg : W.grownBy W' r) (hr : ∀ k, r = some k → top ≤ k) : OwnN f s eo ei W' base top v us L :=
  h.kept fun k _ h2 => hg.block k (by omega) (fun e => by have := hr k e.symm; omega)
/-- What waits behind a strike. -/
theorem rest_struck {l : List SlotV} {X : List CrossV} (hX : ∀ x ∈ X, ∃ i j p r q : Nat, x = ((i : Int), (j : Int), (p : Int), (r : Int), (q : Int)) ∧ i < j ∧ j < l.length) {E : List (List ByteArray)} {s : Nat} {Q' Q3 : List Nat} (hs : s < E.length) (h : Rest l X E (s :: Q')) (hn : Q3.Nodup) (hin : ∀ j ∈ Q3, j < l.length) (hk : ∀ j ∈ Q', j ∈ Q3) (hm : ∀ u ∈ meetS X s, u.2.1 ∈ Q3) :
    Rest l X (E.set s ((E.getD s []).filter (okX l X E s))) Q3 := by
  refine ⟨hn, hin, fun j hj hjn z hz => ?_⟩
  by_cases e : j = s
  · subst e
    rw [getD_set_eq hs] at hz
    rw [keep_ok hX (self_ok hX j)]
    exact (List.mem_filter.1 hz).2
  · rw [getD_set_ne (Ne.symm e)] at hz
    rw [keep_ok hX (fun ⟨u, hu, e9⟩ => hjn (e9 ▸ hm u hu))]
    exact h.2.2 j hj (by rw [List.mem_cons, not_or]; exact ⟨e, fun h9 => hjn (hk j h9)⟩) z hz
/-- What waits where nothing was struck. -/
theorem rest_same {l : List SlotV} {X : List CrossV} {E : List (List ByteArray)} {s : Nat} {Q' : List Nat} (hs : s < E.length) (h : Rest l X E (s :: Q')) (hl : ¬ ((E.getD s []).filter (okX l X E s)).length < (E.getD s []).length) :
    E.set s ((E.getD s []).filter (okX l X E s)) = E ∧ Rest l X E Q' := by
  have h1 := filter_len_eq (p := okX l X E s) (l := E.getD s []) (by omega)
  refine ⟨by rw [filter_all h1]; exact set_self E s [] hs, ?_⟩
  obtain ⟨r1, r2, r3⟩ := h
  rw [List.nodup_cons] at r1
  refine ⟨r1.2, fun j hj => r2 j (List.mem_cons_of_mem _ hj), fun j hj hjn z hz => ?_⟩
  by_cases e : j = s
  · subst e
    exact h1 z hz
  · exact r3 j hj (by rw [List.mem_cons, not_or]; exact ⟨e, hjn⟩) z hz
set_option maxRecDepth 100000 in
set_option maxHeartbeats 6400000 in
theorem iprune_any (l : List SlotV) (X : List CrossV) (C : List (List ByteArray)) (hX36 : X.length ≤ 36) (hl72 : l.length ≤ 72) (hC : C.length = l.length) (hm : ∀ m ∈ C, m.length ≤ 1048576 ∧ ∀ z ∈ m, z.size ≤ 1048576) (hxf : ∀ k, k < l.length → XFor X l.length k (l.getD k none_Slot).2.2.2.toNat)
    (hxs : ∀ x ∈ X, ∃ i j p r q : Nat, x = ((i : Int), (j : Int), (p : Int), (r : Int), (q : Int)) ∧ i < j ∧ j < l.length)
    (base T1 cs nm cm capd topm : Nat) (as0 am a0 : Option Addr) (us ums : List Value) (w : World) (hT : T1 ≤ w.heap.size)
    (hsl : w.ownsRow T1 63 4 (.slice as0 l.length cs) l.length (row_Slot l)) (hmt : OwnN cM 3 86 90 w T1 topm (.slice am nm cm) ums (meetTo X l.length X.length))
    (hd : OwnN fS 1 34 9 w base T1 (.slice a0 C.length capd) us C) :
    Calls Tryz.prog 22 #[.agg #[.slice as0 l.length cs, .slice am nm cm, .slice a0 C.length capd]] w fun e w' =>
      e = .returned (.tuple #[]) ∧ ∃ E us', OwnN fS 1 34 9 w' base T1 (.slice a0 C.length capd) us' E ∧ PruS l X C E ∧ KeptOut base T1 w w' := by
  obtain ⟨i0, hi, hz0, hz1, hz2⟩ := info_parts info_int9
  have HSTR : Hid (∀ (W : World) (E : List (List ByteArray)) (us9 : List Value) (k : Nat), k < l.length → E.length = C.length → (∀ m ∈ E, m.length ≤ 1048576 ∧ ∀ z ∈ m, z.size ≤ 1048576) → KeptOut base T1 w W → OwnN fS 1 34 9 W base T1 (.slice a0 C.length capd) us9 E →
      Calls Tryz.prog 42 #[.agg #[.slice as0 l.length cs, .slice am nm cm, .slice a0 C.length capd], .int .i64 (k : Int)] W fun e w' => e = .returned (.bool (decide (((E.getD k []).filter (okX l X E k)).length < (E.getD k []).length))) ∧ (∃ us', OwnN fS 1 34 9 w' base T1 (.slice a0 C.length capd) us' (E.set k ((E.getD k []).filter (okX l X E k)))) ∧ KeptOut base T1 W w') := Lib.hid (fun W E us9 k hk hE hEm hK hN => by
    obtain ⟨gs, c9, e9⟩ := Joins.ownsRow_form hsl (by omega)
    injection e9 with e9 _ _
    subst e9
    obtain ⟨g, e9, -⟩ := hN.cell (j := k) (by omega)
    subst e9
    rw [← hE] at hN ⊢
    exact istr_any l X E k hk hX36 hl72 (by omega) hEm (hxf k hk) base T1 gs cs nm cm am g capd us9 W (Nat.le_trans hT hK.size) (ownV_block hsl fun q e => hK.block q (hsl.lt q e).2 (.inr (hsl.lt q e).1)) (readsL_own (hmt.full.kept fun q h1 h2 => hK.block q h2 (.inr h1)) (by rw [meetTo_length]; omega) (fun m hm9 => by
      obtain ⟨j, hj, rfl⟩ := List.mem_iff_getElem.1 hm9
      rw [meetTo_length] at hj
      have h8 := meetTo_at X l.length X.length hj
      rw [List.getD_eq_getElem?_getD, List.getElem?_eq_getElem (by rw [meetTo_length]; exact hj), Option.getD_some] at h8
      rw [h8]
      have := meetS_len X X.length j
      omega)) hN)
  have HMR : Hid (∀ k, k < l.length → ∃ gm aj cj, am = some ⟨gm, 0, none⟩ ∧ nm = l.length ∧ ∀ W, KeptOut base T1 w W → W.cell? ⟨gm, k, none⟩ = some (.slice aj (meetS X k).length cj) ∧
      ∀ q, q < (meetS X k).length → ∃ b, aj = some ⟨b, 0, none⟩ ∧ W.cell? ⟨b, q * 3, none⟩ = some (.int .i64 (((meetS X k).getD q (0, 0, 0)).1 : Int)) ∧ W.cell? ⟨b, q * 3 + 1, none⟩ = some (.int .i64 (((meetS X k).getD q (0, 0, 0)).2.1 : Int)) ∧ W.cell? ⟨b, q * 3 + 2, none⟩ = some (.int .i64 (((meetS X k).getD q (0, 0, 0)).2.2 : Int))) := Lib.hid (fun k hk => by
    have h8 := meetTo_at X l.length X.length hk
    rw [List.take_length] at h8
    obtain ⟨gm, aj, cj, e1, e2, h9⟩ := meet_row hmt (s := k) (by rw [meetTo_length]; exact hk) (by rw [h8]; have := meetS_len X X.length k; rw [List.take_length] at this; omega)
    rw [h8] at h9
    rw [meetTo_length] at e2
    exact ⟨gm, aj, cj, e1, e2, fun W hK => h9 W _ (hmt.full.kept fun q h1 h2 => hK.block q h2 (.inr h1))⟩)
  have HMN : Hid (∀ k, (meetS X k).length ≤ 72) := Lib.hid (fun k => by have := meetS_len X X.length k; rw [List.take_length] at this; omega)
  have HCL := Lib.hid hC
  have HM := Lib.hid hm
  have HXF := Lib.hid hxf
  have HXS := Lib.hid hxs
  have HT := Lib.hid hT
  have HSL := Lib.hid hsl
  have HMT := Lib.hid hmt
  have HD := Lib.hid hd
  clear hC hm hxf hxs hT hsl hmt hd
  go_enter Tryz.func22, Tryz.ntmps22
  go_wp2_with fail
  obtain ⟨W1, hW1⟩ : ∃ W1, W1 = w.alloc (.cells #[.slice as0 l.length cs, .slice am nm cm, .slice a0 C.length capd] 50) := ⟨_, rfl⟩
  have HBK : Hid (W1.heap[w.heap.size]? = some (.cells #[.slice as0 l.length cs, .slice am nm cm, .slice a0 C.length capd] 50)) := Lib.hid (by rw [hW1]; exact new_block w _)
  have HA : Hid (Below w.heap.size w W1) := Lib.hid (by rw [hW1]; exact (Below.refl _ _).alloc (Nat.le_refl _) _)
  have hwa : W1.heap.size = w.heap.size + 1 := by rw [hW1]; simp
  rw [← hW1]
  clear hW1
  have HQ0 : Hid (OwnQ (W1.alloc (.cells #[] 3)) W1.heap.size 3 (.slice (some ⟨w.heap.size + 1, 0, none⟩) 0 0) 0 ((List.range 0).map cN)) := Lib.hid (by rw [← hwa]; exact OwnQ.of (own_empty2 W1 _ 1))
  have HB0 : Hid (Below W1.heap.size W1 (W1.alloc (.cells #[] 3))) := Lib.hid ((Below.refl _ _).alloc (Nat.le_refl _) _)
  have HWA := Lib.hid hwa
  clear hwa
  go_loopw [2, 11] (fun q i wr => ∃ k : Nat, k ≤ l.length ∧ i = .int .i64 (k : Int) ∧ Hid (OwnQ wr W1.heap.size 3 q k ((List.range k).map cN)) ∧ Hid (Below W1.heap.size W1 wr)) (fun _ i _ => l.length - (intOf i).toNat)
  case atStart => exact ⟨0, Nat.zero_le _, rfl, HQ0, HB0⟩
  case round =>
    clear HQ0 HB0
    obtain ⟨k, hk, rfl, HQ, HB⟩ := hrel
    by_cases hlt : k < l.length
    · have hd : decide ((k : Int) < (l.length : Int)) = true := decide_eq_true (by omega)
      have HNX : Hid ((List.range (k + 1)).map cN = (List.range k).map cN ++ [cN k]) := Lib.hid (by rw [List.range_succ, List.map_append]; rfl)
      obtain ⟨aq, cq, rfl⟩ := HQ.out.slice
      go_wp2_with (at_builtin; refine list_appendQ _ rfl _ _ 91 rfl W1.heap.size 3 i0 (.int .i64 0) 8 Tryz.underlying91 hi hz0 hz1 hz2 rfl _ _ _ rfl (HQ.out.later ((Below.refl wr.heap.size wr).alloc (Nat.le_refl _) _)) ⟨wr.heap.size, 0, none⟩ 1 (cN k) rfl rfl (by simp [cN]) (by omega) (by omega) (le_alloc HB.out.size _) ?_; intro v5 w5 hown hgrow)
      have HB5 := Lib.hid ((HB.out.alloc HB.out.size (.cells #[cN k] 3)).grown hgrow (le_alloc HB.out.size _) (fun q h => (HQ.out.lt q h).1))
      have HQ5 : Hid (OwnQ w5 W1.heap.size 3 v5 (k + 1) ((List.range (k + 1)).map cN)) := Lib.hid (by rw [HNX.out]; exact hown)
      clear hown hgrow
      go_roundw
      case rel => exact ⟨k + 1, by omega, by go_num, HQ5, HB5⟩
      case measure => simp [intOf]; omega
    · have hd : decide ((k : Int) < (l.length : Int)) = false := decide_eq_false (by omega)
      obtain rfl : k = l.length := by omega
      obtain ⟨wl, rfl⟩ : ∃ wl, wl = wr := ⟨wr, rfl⟩
      have HK1 : Hid (KeptOut base T1 W1 wl) := Lib.hid ⟨HB.out.os, HB.out.tape, HB.out.output, HB.out.size, fun q hq _ => HB.out.block q hq⟩
      have HN1 := Lib.hid (HD.out.later HT.out (HA.out.trans (HB.out.mono HA.out.size)))
      have HR1 : Hid (Rest l X C (List.range l.length)) := Lib.hid ⟨List.nodup_range, fun j hj => List.mem_range.1 hj, fun j hj hn => absurd (List.mem_range.2 hj) hn⟩
      have HP1 := Lib.hid (PartS.all l X C)
      go_wp2_with fail
      go_loopw [2] (fun q wr => ∃ (Q : List Nat) (E : List (List ByteArray)) (us' : List Value), Hid (OwnQ wr W1.heap.size 3 q Q.length (Q.map cN)) ∧ Hid (OwnN fS 1 34 9 wr base T1 (.slice a0 C.length capd) us' E) ∧ Hid (PartS l X C E) ∧ Hid (Rest l X E Q) ∧ Hid (KeptOut base T1 W1 wr)) (fun q wr => 73 * sumAt wr (.slice a0 C.length capd) C.length + lenOf (some q))
      case atStart => exact ⟨List.range l.length, C, us, Lib.hid (by rw [List.length_range]; exact HQ.out), HN1, HP1, HR1, HK1⟩
      case round =>
        obtain ⟨Q, E, us', HQ2, HN2, HP2, HR2, HK2⟩ := hrel
        obtain ⟨wr2, rfl⟩ : ∃ wr2, wr2 = wr := ⟨wr, rfl⟩
        cases Q with
        | nil =>
          have HQ3 : Hid (OwnQ wr2 W1.heap.size 3 u2 0 []) := HQ2
          clear HQ2
          obtain ⟨aq, cq, rfl⟩ := HQ3.out.slice
          have HF : Hid (PruS l X C E) := Lib.hid (HP2.out.ends (fun j hj z hz => HR2.out.2.2 j (by have := HP2.out.length; have := HCL.out; omega) (by simp) z hz))
          have HK9 : Hid (KeptOut base T1 w wr2) := Lib.hid ((⟨HA.out.os, HA.out.tape, HA.out.output, HA.out.size, fun q hq _ => HA.out.block q hq⟩ : KeptOut base T1 w W1).trans HK2.out)
          go_wp2_with fail
          go_end0
          exact ⟨rfl, E, us', HN2.out, HF.out, HK9.out⟩
        | cons s Q' =>
          have HQ3 : Hid (OwnQ wr2 W1.heap.size 3 u2 (Q'.length + 1) (cN s :: Q'.map cN)) := HQ2
          clear HQ2
          obtain ⟨gq, oq, cq, rfl⟩ := HQ3.out.form (by omega)
          have hsl9 := HR2.out.2.1 s (List.mem_cons_self ..)
          have hq72 : Q'.length + 1 ≤ l.length := nodup_le l.length (s :: Q') HR2.out.1 HR2.out.2.1
          have c0 : wr2.cell? ⟨gq, oq, none⟩ = some (.int .i64 (s : Int)) := OwnQ.head HQ3.out (by omega)
          have hcq : Q'.length + 1 ≤ cq := by
            obtain ⟨-, -, a9, c9, e9, hcap, -⟩ := HQ3.out.reads (by omega)
            injection e9 with _ _ e9
            subst e9
            exact hcap.2.1
          have hcq1 : (1 : Int) ≤ ((Q'.length + 1 : Nat) : Int) := by omega
          have hcq2 : ((Q'.length + 1 : Nat) : Int) ≤ (cq : Int) := by omega
          have hcq3 : (1 : Int) ≤ (Q'.length : Int) + 1 := by omega
          have hcq4 : (Q'.length : Int) + 1 ≤ (cq : Int) := by omega
          have hgt : decide ((0 : Int) < (Q'.length : Int) + 1) = true := decide_eq_true (by omega)
          have HBB := Lib.hid ((HK2.out.block w.heap.size (by have := HWA.out; omega) (.inr HT.out)).trans HBK.out)
          have x0 := Joins.cell_of_block HBB.out 0
          have x1 := Joins.cell_of_block HBB.out 1
          have x2 := Joins.cell_of_block HBB.out 2
          have x0 : wr2.cell? ⟨w.heap.size, 0, none⟩ = some (.slice as0 l.length cs) := x0
          have x1 : wr2.cell? ⟨w.heap.size, 1, none⟩ = some (.slice am nm cm) := x1
          have x2 : wr2.cell? ⟨w.heap.size, 2, none⟩ = some (.slice a0 C.length capd) := x2
          have HKw : Hid (KeptOut base T1 w wr2) := Lib.hid ((⟨HA.out.os, HA.out.tape, HA.out.output, HA.out.size, fun q hq _ => HA.out.block q hq⟩ : KeptOut base T1 w W1).trans HK2.out)
          have HEC := Lib.hid HP2.out.length
          have hsE : s < E.length := by have := HEC.out; have := HCL.out; omega
          have HST := Lib.hid (HSTR.out wr2 E us' s hsl9 HEC.out (HP2.out.small HM.out) HKw.out HN2.out)
          have HP3 := Lib.hid (HP2.out.strike s (by have := HCL.out; omega))
          have HSS : Hid (∀ m : List ByteArray, sumL (E.set s m) + (E.getD s []).length = sumL E + m.length) := Lib.hid (fun m => sumL_set E s m hsE)
          have HSU := Lib.hid (sumAt_is HN2.out C.length HEC.out)
          have HRS : Hid (∀ Q3 : List Nat, Q3.Nodup → (∀ j ∈ Q3, j < l.length) → (∀ j ∈ Q', j ∈ Q3) → (∀ u ∈ meetS X s, u.2.1 ∈ Q3) → Rest l X (E.set s ((E.getD s []).filter (okX l X E s))) Q3) := Lib.hid (fun Q3 h1 h2 h3 h4 => rest_struck HXS.out hsE HR2.out h1 h2 h3 h4)
          have HRN := Lib.hid (fun h => rest_same hsE HR2.out h)
          obtain ⟨FL, hFL⟩ : ∃ FL, FL = (E.getD s []).filter (okX l X E s) := ⟨_, rfl⟩
          rw [← hFL] at HST HP3 HRS HRN
          have HE2C : Hid ((E.set s FL).length = C.length) := Lib.hid (by rw [List.length_set]; exact HEC.out)
          obtain ⟨t, ht⟩ : ∃ t, t = decide (FL.length < (E.getD s []).length) := ⟨_, rfl⟩
          rw [← ht] at HST
          have HT9 := Lib.hid ht
          have hTw := HT.out
          have hwa := HWA.out
          have hQN := HR2.out.1
          rw [List.nodup_cons] at hQN
          have HQN := Lib.hid hQN.2
          have HQI : Hid (∀ j ∈ Q', j < l.length) := Lib.hid (fun j hj => HR2.out.2.1 j (List.mem_cons_of_mem _ hj))
          clear ht hFL hQN
          go_upto_region 9 with fail
          go_cut [2] (fun q wx => ∃ (aq : Option Addr) (c2 : Nat), q = .slice aq Q'.length c2 ∧ wx = wr2 ∧ Hid (OwnQ wr2 W1.heap.size 3 (.slice aq Q'.length c2) Q'.length (Q'.map cN)))
          case first =>
            by_cases h1 : cq = 1
            · subst h1
              obtain ⟨e1, e2, h3⟩ := HQ3.out.tail1
              have HQ5 : Hid (OwnQ wr2 W1.heap.size 3 (.slice (some ⟨gq, oq, none⟩) Q'.length 0) Q'.length (Q'.map cN)) := Lib.hid (by rw [e2, e1]; exact h3)
              have HE1 := Lib.hid e1
              clear e1 e2 h3
              go_wp2_with fail
              go_meet
              exact ⟨_, _, by rw [HE1.out], rfl, HQ5⟩
            · have HQ5 := Lib.hid HQ3.out.tail
              have h2 : ¬ (1 : Int) = (cq : Int) := by omega
              have h3 : ¬ (cq : Int) = 1 := by omega
              go_wp2_with fail
              go_meet
              exact ⟨_, _, rfl, rfl, HQ5⟩
          case rest =>
            obtain ⟨aq, c2, rfl, rfl, HQ4⟩ := hcut
            obtain ⟨wr2, rfl⟩ : ∃ x, x = wc := ⟨wc, rfl⟩
            have hk9 := HK2.out.size
            cases t with
            | false =>
              have HLT : Hid (¬ FL.length < (E.getD s []).length) := Lib.hid (fun h => by have h9 := HT9.out; rw [decide_eq_true h] at h9; cases h9)
              obtain ⟨hE9, hR9⟩ := HRN.out HLT.out
              have HE9 := Lib.hid hE9
              have HR9 := Lib.hid hR9
              clear hE9 hR9
              go_wp2_with (go_at_call 42; refine HST.out.mono ?_; rintro e w6 ⟨rfl, ⟨us6, n6⟩, k6⟩; rw [HE9.out] at n6; have HN6 := Lib.hid n6; have HK6 := Lib.hid k6; clear n6 k6)
              have HQ6 : Hid (OwnQ w6 W1.heap.size 3 (.slice aq Q'.length c2) Q'.length (Q'.map cN)) := Lib.hid (HQ4.out.kept fun q e => HK6.out.block q (HQ4.out.lt q e).2 (.inr (by have := (HQ4.out.lt q e).1; omega)))
              have HS6 := Lib.hid (sumAt_is HN6.out C.length HEC.out)
              go_roundw
              case rel => exact ⟨Q', E, us6, HQ6, HN6, HP2, HR9, Lib.hid (HK2.out.trans HK6.out)⟩
              case measure =>
                show 73 * sumAt _ _ _ + lenOf (some (.slice _ Q'.length _)) < 73 * sumAt _ _ _ + lenOf (some (.slice _ (Q'.length + 1) _))
                rw [HS6.out, HSU.out]
                simp only [lenOf]
                omega
            | true =>
              have HLT : Hid (FL.length < (E.getD s []).length) := Lib.hid (of_decide_eq_true HT9.out.symm)
              obtain ⟨gm, aj, cj, eam, enm, hrow⟩ := HMR.out s hsl9
              have HRW := Lib.hid hrow
              have HMI : Hid (∀ u ∈ meetS X s, u.2.1 < l.length) := Lib.hid (fun u hu => (meet_facts (HXF.out s hsl9) hu).2)
              have HM72 := Lib.hid (HMN.out s)
              obtain ⟨M, hM⟩ : ∃ M, M = meetS X s := ⟨_, rfl⟩
              rw [← hM] at HRW HRS HMI HM72
              have hm72 := HM72.out
              have HEAM := Lib.hid eam
              have HENM := Lib.hid enm
              have hs1 : (s : Int) < (l.length : Int) := by omega
              have hs0 : (0 : Int) ≤ (s : Int) := by omega
              clear hrow hM eam enm
              go_wp2_with (go_at_call 42; refine HST.out.mono ?_; rintro e w6 ⟨rfl, ⟨us6, n6⟩, k6⟩; have HN6 := Lib.hid n6; have HK6 := Lib.hid k6; clear n6 k6; have HB6 := Lib.hid ((HK6.out.block w.heap.size (by omega) (.inr HT.out)).trans HBB.out); clear x0 x1 x2; have x1 : w6.cell? ⟨w.heap.size, 1, none⟩ = some (.slice (some ⟨gm, 0, none⟩) l.length cm) := (by rw [← HEAM.out, ← HENM.out]; exact Joins.cell_of_block HB6.out 1); have HKW6 := Lib.hid (HKw.out.trans HK6.out); obtain ⟨y1, -⟩ := HRW.out w6 HKW6.out)
              have HQ6 : Hid (OwnQ w6 W1.heap.size 3 (.slice aq Q'.length c2) Q'.length (Q'.map cN)) := Lib.hid (HQ4.out.kept fun q e => HK6.out.block q (HQ4.out.lt q e).2 (.inr (by have := (HQ4.out.lt q e).1; omega)))
              have HS6 := Lib.hid (sumAt_is HN6.out C.length HE2C.out)
              have HK61 := Lib.hid (HK2.out.trans HK6.out)
              clear x1 y1
              go_loopw [2, 37] (fun q i wr => ∃ (k : Nat) (Q3 : List Nat), k ≤ M.length ∧ i = .int .i64 (k : Int) ∧ Hid (OwnQ wr W1.heap.size 3 q Q3.length (Q3.map cN)) ∧ Hid (Q3.Nodup ∧ (∀ j ∈ Q3, j < l.length) ∧ (∀ j ∈ Q', j ∈ Q3) ∧ ∀ u ∈ M.take k, u.2.1 ∈ Q3) ∧ Hid (KeptOut base T1 W1 wr) ∧ Hid (KeptOut base T1 w wr) ∧ Hid (OwnN fS 1 34 9 wr base T1 (.slice a0 C.length capd) us6 (E.set s FL))) (fun _ i _ => M.length - (intOf i).toNat)
              case atStart => exact ⟨0, Q', Nat.zero_le _, rfl, HQ6, Lib.hid ⟨HQN.out, HQI.out, fun j h => h, fun u hu => by cases hu⟩, HK61, HKW6, HN6⟩
              case round =>
                clear HQ6 HK61 HKW6
                obtain ⟨k, Q3, hk, rfl, HQ7, HC7, HK7, HKW7, HN7⟩ := hrel
                obtain ⟨wr3, rfl⟩ : ∃ x, x = wr := ⟨wr, rfl⟩
                have hk7 := HK7.out.size
                have hq3 : Q3.length ≤ l.length := nodup_le l.length Q3 HC7.out.1 HC7.out.2.1
                obtain ⟨a7, c7, rfl⟩ := HQ7.out.slice
                by_cases hlt : k < M.length
                · have hd : decide ((k : Int) < (M.length : Int)) = true := decide_eq_true (by omega)
                  obtain ⟨b, ebj, z0, z1, z2⟩ := (HRW.out wr3 HKW7.out).2 k hlt
                  have HMT : Hid (∀ u ∈ M.take (k + 1), u ∈ M.take k ∨ u = M.getD k (0, 0, 0)) := Lib.hid (fun u hu => by
                    rw [take_nextN M k (0, 0, 0) hlt] at hu
                    rcases List.mem_append.1 hu with h | h
                    · exact .inl h
                    · exact .inr (List.mem_singleton.1 h))
                  have HMK := Lib.hid (HMI.out (M.getD k (0, 0, 0)) (by simp [List.getD, hlt]))
                  obtain ⟨⟨at0, sl, at1⟩, hy⟩ : ∃ y, y = M.getD k (0, 0, 0) := ⟨_, rfl⟩
                  rw [← hy] at z0 z1 z2 HMT HMK
                  simp only at z0 z1 z2 HMK
                  subst ebj
                  have hsl := HMK.out
                  have HA7 : Hid (Below wr3.heap.size wr3 (wr3.alloc (.cells #[.int .i64 (at0 : Int), .int .i64 (sl : Int), .int .i64 (at1 : Int)] 90))) := Lib.hid ((Below.refl _ _).alloc (Nat.le_refl _) _)
                  have HQ8 := Lib.hid (HQ7.out.later HA7.out)
                  have HN8 := Lib.hid (HN7.out.later (by omega) HA7.out)
                  have HK8 : Hid (KeptOut base T1 W1 (wr3.alloc (.cells #[.int .i64 (at0 : Int), .int .i64 (sl : Int), .int .i64 (at1 : Int)] 90))) := Lib.hid (HK7.out.grow (World.grownBy_alloc wr3 _ none) (fun q e => by cases e))
                  have HKW8 : Hid (KeptOut base T1 w (wr3.alloc (.cells #[.int .i64 (at0 : Int), .int .i64 (sl : Int), .int .i64 (at1 : Int)] 90))) := Lib.hid (HKW7.out.grow (World.grownBy_alloc wr3 _ none) (fun q e => by cases e))
                  have HCT := Lib.hid (contN_any Q3 sl (by omega) (.slice a7 Q3.length c7) _ (by have h9 := HQ8.out.reads (by omega); exact h9))
                  obtain ⟨t, ht⟩ : ∃ t, t = decide (sl ∈ Q3) := ⟨_, rfl⟩
                  rw [← ht] at HCT
                  have HTT := Lib.hid ht
                  clear ht hy
                  cases t with
                  | true =>
                    have hin := of_decide_eq_true HTT.out.symm
                    have HC9 : Hid (Q3.Nodup ∧ (∀ j ∈ Q3, j < l.length) ∧ (∀ j ∈ Q', j ∈ Q3) ∧ ∀ u ∈ M.take (k + 1), u.2.1 ∈ Q3) := Lib.hid ⟨HC7.out.1, HC7.out.2.1, HC7.out.2.2.1, fun u hu => by
                      rcases HMT.out u hu with h | h
                      · exact HC7.out.2.2.2 u h
                      · rw [h]; exact hin⟩
                    clear hin
                    go_wp2_with (go_at_call 43; refine HCT.out.mono ?_; rintro e w8 ⟨rfl, rfl⟩)
                    go_roundw
                    case rel => exact ⟨k + 1, Q3, by omega, by go_num, HQ8, HC9, HK8, HKW8, HN8⟩
                    case measure => simp [intOf]; omega
                  | false =>
                    have hin := of_decide_eq_false HTT.out.symm
                    have HC9 : Hid ((Q3 ++ [sl]).Nodup ∧ (∀ j ∈ Q3 ++ [sl], j < l.length) ∧ (∀ j ∈ Q', j ∈ Q3 ++ [sl]) ∧ ∀ u ∈ M.take (k + 1), u.2.1 ∈ Q3 ++ [sl]) := Lib.hid ⟨List.nodup_append.2 ⟨HC7.out.1, by simp, fun x hx y hy e => hin (by rw [List.mem_singleton] at hy; rw [← hy, ← e]; exact hx)⟩, fun j hj => by
                      rcases List.mem_append.1 hj with h | h
                      · exact HC7.out.2.1 j h
                      · rw [List.mem_singleton.1 h]; exact hsl, fun j hj => List.mem_append_left _ (HC7.out.2.2.1 j hj), fun u hu => by
                      rcases HMT.out u hu with h | h
                      · exact List.mem_append_left _ (HC7.out.2.2.2 u h)
                      · rw [h]; simp⟩
                    clear hin
                    obtain ⟨WA, hWA⟩ : ∃ WA, WA = wr3.alloc (.cells #[.int .i64 (at0 : Int), .int .i64 (sl : Int), .int .i64 (at1 : Int)] 90) := ⟨_, rfl⟩
                    have HWZ : Hid (WA.heap.size = wr3.heap.size + 1) := Lib.hid (by rw [hWA]; simp)
                    have HWB : Hid (WA.cell? ⟨wr3.heap.size, 1, none⟩ = some (.int .i64 (sl : Int))) := Lib.hid (by rw [hWA]; simp)
                    go_wp2_with (first | (go_at_call 43; refine HCT.out.mono ?_; rintro e w8 ⟨rfl, rfl⟩; rw [← hWA]; rw [← hWA] at HQ8 HN8 HK8 HKW8; have c8 := HWB.out; clear hWA) | (at_builtin; refine list_appendQ _ rfl _ _ 91 rfl W1.heap.size 3 i0 (.int .i64 0) 8 Tryz.underlying91 hi hz0 hz1 hz2 rfl _ _ _ rfl (HQ8.out.later ((Below.refl WA.heap.size WA).alloc (Nat.le_refl _) _)) ⟨WA.heap.size, 0, none⟩ 1 (cN sl) rfl rfl (by simp [cN]) (by omega) (by omega) (le_alloc HK8.out.size _) ?_; intro v9 w9 hown hgrow))
                    have HG9 := Lib.hid hgrow
                    have HQL : Hid (∀ q, (Value.slice a7 Q3.length c7).ownBlock = some q → W1.heap.size ≤ q) := Lib.hid (fun q e => (HQ8.out.lt q e).1)
                    have HZ9 := HWZ.out
                    have HQ9 : Hid (OwnQ w9 W1.heap.size 3 v9 (Q3 ++ [sl]).length ((Q3 ++ [sl]).map cN)) := Lib.hid (by
                      rw [List.length_append, List.map_append]
                      exact hown)
                    have HN9 := Lib.hid ((HN8.out.later (by omega) ((Below.refl WA.heap.size WA).alloc (Nat.le_refl _) (.cells #[cN sl] 3))).grow (by have := le_alloc (o := .cells #[cN sl] 3) (Nat.le_refl WA.heap.size); omega) HG9.out (fun q e => by have := HQL.out q e; omega))
                    have HK9 := Lib.hid ((HK8.out.grow (World.grownBy_alloc WA (.cells #[cN sl] 3) none) (fun q e => by cases e)).grow HG9.out HQL.out)
                    have HKW9 := Lib.hid ((HKW8.out.grow (World.grownBy_alloc WA (.cells #[cN sl] 3) none) (fun q e => by cases e)).grow HG9.out (fun q e => by have := HQL.out q e; omega))
                    clear hown hgrow HZ9
                    go_roundw
                    case rel => exact ⟨k + 1, Q3 ++ [sl], by omega, by go_num, HQ9, HC9, HK9, HKW9, HN9⟩
                    case measure => simp [intOf]; omega
                · have hd : decide ((k : Int) < (M.length : Int)) = false := decide_eq_false (by omega)
                  have HR9 := Lib.hid (HRS.out Q3 HC7.out.1 HC7.out.2.1 HC7.out.2.2.1 (fun u hu => HC7.out.2.2.2 u (by rw [List.take_of_length_le (by omega)]; exact hu)))
                  have HS7 := Lib.hid (sumAt_is HN7.out C.length HE2C.out)
                  have HSF := Lib.hid (HSS.out FL)
                  have HLL := HLT.out
                  go_wp2_with fail
                  go_roundw
                  case rel => exact ⟨Q3, E.set s FL, us6, HQ7, HN7, HP3, HR9, HK7⟩
                  case measure =>
                    show 73 * sumAt _ _ _ + lenOf (some (.slice _ Q3.length _)) < 73 * sumAt _ _ _ + lenOf (some (.slice _ (Q'.length + 1) _))
                    rw [HS7.out, HSU.out]
                    have h9 := HSF.out
                    simp only [lenOf]
                    omega
end Go.Proofs.YtgjijmcedonlmaaGreatDoor
namespace Go.Proofs.YtgjijmcedonlmaaGreatDoor
open Go.RowKit

theorem pruF_len {g : Int × Int × ByteArray} {D E : List (List ByteArray)} (h : PruF g D E) : E.length = D.length := by
  by_cases e : D.length = (slG g).length
  · obtain ⟨p, rfl, -⟩ := h.1 e
    exact subF_length _ _
  · rw [h.2 e]
theorem pruF_sub {g : Int × Int × ByteArray} {D E : List (List ByteArray)} (h : PruF g D E) (i : Nat) : (E.getD i []).Sublist (D.getD i []) := by
  by_cases e : D.length = (slG g).length
  · obtain ⟨p, rfl, hc, hm⟩ := h.1 e
    exact PartS.mem (⟨p, rfl, hm⟩ : PartS (slG g) (crossS g) D (subF p D)) i
  · rw [h.2 e]
    exact List.Sublist.refl _
theorem pruF_small {g : Int × Int × ByteArray} {D E : List (List ByteArray)} (h : PruF g D E) {b : Nat} (hD : ∀ m ∈ D, m.length ≤ b) : ∀ m ∈ E, m.length ≤ b := by
  intro m hm
  obtain ⟨i, hi, rfl⟩ := List.mem_iff_getElem.1 hm
  have h1 := (pruF_sub h i).length_le
  have h2 := pruF_len h
  simp only [List.getD_eq_getElem?_getD, List.getElem?_eq_getElem hi, List.getElem?_eq_getElem (show i < D.length by omega), Option.getD_some] at h1
  exact Nat.le_trans h1 (hD _ (List.getElem_mem _))
theorem cross_pairs (g : Int × Int × ByteArray) : ∀ x ∈ crossS g, ∃ i j p r q : Nat, x = ((i : Int), (j : Int), (p : Int), (r : Int), (q : Int)) ∧ i < j ∧ j < (slG g).length := by
  intro x hx
  obtain ⟨i, j, p, r, q, rfl, hij, hi, hj, -⟩ := cross_facts hx
  exact ⟨i, j, p, r, q, rfl, hij, hj⟩
theorem iprune_none (w : World) :
    Calls Tryz.prog 22 #[.agg #[.slice none 0 0, .slice none 0 0, .slice none 0 0]] w fun e w' => e = .returned (.tuple #[]) ∧ Below w.heap.size w w' := by
  have h := iprune_any [] [] [] (by decide) (by decide) rfl (fun m hm => by cases hm) (fun k hk => absurd hk (by simp)) (fun x hx => by cases hx) w.heap.size w.heap.size 0 0 0 0 w.heap.size none none none [] [] w (Nat.le_refl _) (World.ownsRow_nil w w.heap.size _ 4) (OwnN.nil w w.heap.size cM 3 _ _) (OwnN.nil w w.heap.size fS 1 _ _)
  refine Calls.mono h ?_
  rintro e w' ⟨rfl, E, us', -, -, hk⟩
  exact ⟨rfl, hk.os, hk.tape, hk.output, hk.size, fun k h1 => hk.block k h1 (.inl h1)⟩
set_option maxRecDepth 100000 in
set_option maxHeartbeats 3200000 in
theorem iprun_any (r c : Int) (s : ByteArray) (D : List (List ByteArray)) (hs : s.size ≤ 4194304) (hl : D.length ≤ 1048576) (hm : ∀ m ∈ D, m.length ≤ 1048576 ∧ ∀ z ∈ m, z.size ≤ 1048576) (v : Value) (w : World) (hv : ReadsN w.heap.size w v D) :
    Calls Tryz.prog 6 #[.agg #[.int .i64 r, .int .i64 c, .string s], v] w fun e w' => ∃ v' E, e = .returned v' ∧ OwnT w' w.heap.size w'.heap.size v' E ∧ PruF (r, c, s) D E ∧ Below w.heap.size w w' := by
  obtain ⟨i0, hi, hz0, hz1, hz2⟩ := info_parts infoStrS
  have HCA := Lib.hid (fun ad capd w => icand_any r c s D.length hs ad capd w)
  have HPR : Hid (D.length = (slG (r, c, s)).length → ∀ (base T1 cs nm cm capd topm : Nat) (as0 am a0 : Option Addr) (us ums : List Value) (w : World), T1 ≤ w.heap.size →
      w.ownsRow T1 63 4 (.slice as0 (slG (r, c, s)).length cs) (slG (r, c, s)).length (row_Slot (slG (r, c, s))) → OwnN cM 3 86 90 w T1 topm (.slice am nm cm) ums (meetTo (crossS (r, c, s)) (slG (r, c, s)).length (crossS (r, c, s)).length) →
      OwnN fS 1 34 9 w base T1 (.slice a0 D.length capd) us D →
      Calls Tryz.prog 22 #[.agg #[.slice as0 (slG (r, c, s)).length cs, .slice am nm cm, .slice a0 D.length capd]] w fun e w' =>
        e = .returned (.tuple #[]) ∧ ∃ E us', OwnN fS 1 34 9 w' base T1 (.slice a0 D.length capd) us' E ∧ PruS (slG (r, c, s)) (crossS (r, c, s)) D E ∧ KeptOut base T1 w w') := Lib.hid (fun hD base T1 cs nm cm capd topm as0 am a0 us ums w h1 h2 h3 h4 =>
    iprune_any _ _ D (crossS_no_more (r, c, s)) (slG_length (r, c, s)) hD hm (fun k hk => xfor_len (r, c, s) hk) (cross_pairs (r, c, s)) base T1 cs nm cm capd topm as0 am a0 us ums w h1 h2 h3 h4)
  have HPN := Lib.hid (fun w => iprune_none w)
  have HKP := Lib.hid (gbox_keep w r c s 25)
  have HCL := Lib.hid (fun (l : List ByteArray) (h : l.length ≤ 8388608) v w hv => cloneS_any l h v w hv)
  have HPF : Hid (∀ E, PruF (r, c, s) D E ↔ ((D.length = (slG (r, c, s)).length → PruS (slG (r, c, s)) (crossS (r, c, s)) D E) ∧ (D.length ≠ (slG (r, c, s)).length → E = D))) := Lib.hid (fun E => Iff.rfl)
  have HLEN := Lib.hid (slG_length (r, c, s))
  obtain ⟨l, hll⟩ : ∃ l, l = slG (r, c, s) := ⟨_, rfl⟩
  rw [← hll] at HCA HPR HPF HLEN
  obtain ⟨X, hX⟩ : ∃ X, X = crossS (r, c, s) := ⟨_, rfl⟩
  rw [← hX] at HCA HPR HPF
  clear hll hX
  obtain ⟨-, a1, cap1, rfl, -, hc⟩ := hv.cells
  have HC := Lib.hid hc
  have HM := Lib.hid hm
  clear hc hm hv
  go_enter Tryz.func6, Tryz.ntmps6
  go_wp2_with fail
  obtain ⟨W0, hW0⟩ : ∃ W0, W0 = w.alloc (.cells #[.int .i64 r, .int .i64 c, .string s] 25) := ⟨_, rfl⟩
  have hws : W0.heap.size = w.heap.size + 1 := by rw [hW0]; simp
  have HBX : Hid (Below w.heap.size w W0) := Lib.hid (by rw [hW0]; exact (Below.refl _ _).alloc (Nat.le_refl _) _)
  rw [← hW0] at HKP ⊢
  clear hW0
  have HO0 : Hid (OwnN fS 1 34 9 (W0.alloc (.cells #[] 34)) W0.heap.size (W0.alloc (.cells #[] 34)).heap.size (.slice (some ⟨w.heap.size + 1, 0, none⟩) 0 0) [] []) := Lib.hid (by rw [← hws]; exact OwnN.empty (own_empty2 W0 _ 1))
  have HB0 := Lib.hid ((Below.refl W0.heap.size W0).alloc (Nat.le_refl _) (.cells #[] 34))
  go_loopw [5, 11] (fun o i wr => ∃ k : Nat, k ≤ D.length ∧ i = .int .i64 (k : Int) ∧ Hid (∃ us, OwnN fS 1 34 9 wr W0.heap.size wr.heap.size o us (D.take k)) ∧ Hid (Below W0.heap.size W0 wr)) (fun _ i _ => D.length - (intOf i).toNat)
  case atStart => exact ⟨0, Nat.zero_le _, rfl, Lib.hid ⟨_, HO0.out⟩, HB0⟩
  case round =>
    clear HO0 HB0
    obtain ⟨k, hk, rfl, ⟨us, hn⟩, HB⟩ := hrel
    have HO := Lib.hid hn
    clear hn
    have HBW := Lib.hid (HBX.out.trans (HB.out.mono HBX.out.size))
    by_cases hlt : k < D.length
    · have hd : decide ((k : Int) < (D.length : Int)) = true := decide_eq_true (by omega)
      obtain ⟨b, off, u, rfl, hb, q0, hu⟩ := HC.out k hlt
      have hml := (HM.out _ (show D.getD k [] ∈ D by simp [List.getD, hlt])).1
      have HNX := Lib.hid (take_nextN D k [] hlt)
      have hkl : (D.take k).length = k := by simp; omega
      obtain ⟨L, hL⟩ : ∃ L, L = D.take k := ⟨_, rfl⟩
      rw [← hL] at HO HNX hkl
      obtain ⟨M, hM⟩ : ∃ M, M = D.getD k [] := ⟨_, rfl⟩
      rw [← hM] at hu hml HNX
      clear hL hM
      have HCM := Lib.hid (HCL.out M (by omega) u wr (ReadsV.wide (ReadsV.later hu HBW.out) HBW.out.size))
      have c0 := (HBW.out.cell (p := ⟨b, off + k, none⟩) hb).trans q0
      clear q0 hu
      go_wp2_with (first | (go_at_call 20; refine HCM.out.mono ?_; rintro e w5 ⟨v5, rfl, o5, b5⟩; obtain ⟨a5, c5, rfl⟩ := ownV_slice o5; have HB5 := Lib.hid (HB.out.trans (b5.mono HB.out.size)); have HO5 := Lib.hid (HO.out.later (Nat.le_refl _) b5); have HT5 := Lib.hid (fun q h => (o5.lt q h).1); have HU5 := Lib.hid (own_base (own_fS o5) HB.out.size); have HZ5 := Lib.hid b5.size; clear o5 b5) | (at_builtin; refine list_appendW _ rfl _ _ 26 rfl W0.heap.size 34 i0 (.slice none 0 0) 1 24 Tryz.underlying26 hi hz0 hz1 hz2 rfl (by decide) _ _ _ rfl (HO5.out.row.alloc _) ⟨w5.heap.size, 0, none⟩ 1 1 [.slice a5 M.length c5] rfl rfl (by decide) (by simp [Value.oneCell']) (one_srcN w5 _ _) (by omega) (by omega) (le_alloc HB5.out.size _) ?_; intro v6 w6 hown hgrow hwhere))
      have HB6 := Lib.hid ((HB5.out.alloc HB5.out.size (.cells #[.slice a5 M.length c5] 34)).grown hgrow (le_alloc HB5.out.size _) (fun q h => (HO5.out.low q h).1))
      have HN6 := Lib.hid (HO5.out.appended HZ5.out _ HU5.out HT5.out hown hgrow hwhere)
      clear hown hgrow hwhere
      go_roundw
      case rel => exact ⟨k + 1, by omega, by go_num, Lib.hid ⟨_, by rw [HNX.out]; exact HN6.out⟩, HB6⟩
      case measure => simp [intOf]; omega
    · have hd : decide ((k : Int) < (D.length : Int)) = false := decide_eq_false (by omega)
      obtain rfl : k = D.length := by omega
      have HO9 : Hid (OwnN fS 1 34 9 wr W0.heap.size wr.heap.size u5 us D) := Lib.hid (by
        have h9 := HO.out
        rw [List.take_length] at h9
        exact h9)
      clear HO
      obtain ⟨a5, c5, rfl⟩ := ownV_slice HO9.out.row
      obtain ⟨d0, d1, d2⟩ := HKP.out _ HB.out
      have HBS := HB.out.size
      by_cases h1 : D.length = l.length
      · have H1 := Lib.hid h1
        clear h1
        go_wp2_with (first | (go_at_call 21; refine (HCA.out a5 c5 wr).mono ?_; rintro e w6 ⟨sv, mv, dv, rfl, b6, hcase⟩; rcases hcase with ⟨hne, -⟩ | ⟨-, rfl, hsl, ums, hmt⟩; (exact absurd H1.out hne); obtain ⟨as0, cs, rfl⟩ := ownV_slice hsl; obtain ⟨am, cm, rfl⟩ := ownV_slice hmt.row; have HB6 := Lib.hid b6; have HSL := Lib.hid hsl; have HMT := Lib.hid hmt; clear b6 hsl hmt) | (go_at_call 22; refine (HPR.out H1.out W0.heap.size wr.heap.size cs _ cm c5 w6.heap.size as0 am a5 us ums w6 HB6.out.size HSL.out (by rw [← H1.out]; exact HMT.out) (HO9.out.later (Nat.le_refl _) HB6.out)).mono ?_; rintro e w7 ⟨rfl, E, us7, h5, h6, h7⟩; have HN7 := Lib.hid h5; have HP7 := Lib.hid h6; have HK7 := Lib.hid h7; clear h5 h6 h7))
        have HF : Hid (PruF (r, c, s) D E) := Lib.hid ((HPF.out E).2 ⟨fun _ => HP7.out, fun h => absurd H1.out h⟩)
        have HB7 := Lib.hid (HK7.out.below (HBW.out.trans (HB6.out.mono HBW.out.size)) (by omega) (by have := HB6.out.size; omega))
        go_ret
        exact ⟨_, E, rfl, ⟨us7, HN7.out.full.under (by omega)⟩, HF.out, HB7.out⟩
      · have HF : Hid (PruF (r, c, s) D D) := Lib.hid ((HPF.out D).2 ⟨fun h => absurd h h1, fun _ => rfl⟩)
        have H1 := Lib.hid h1
        clear h1
        go_wp2_with (first | (go_at_call 21; refine (HCA.out a5 c5 wr).mono ?_; rintro e w6 ⟨sv, mv, dv, rfl, b6, hcase⟩; rcases hcase with ⟨-, rfl, rfl, rfl⟩ | ⟨hne, -⟩; rotate_left; (exact absurd hne H1.out); have HB6 := Lib.hid b6; clear b6) | (go_at_call 22; refine (HPN.out w6).mono ?_; rintro e w7 ⟨rfl, b7⟩; have HB7 := Lib.hid (HB6.out.trans (b7.mono HB6.out.size)); clear b7))
        have HN7 := Lib.hid (HO9.out.now HB7.out)
        go_ret
        exact ⟨_, D, rfl, ⟨us, HN7.out.under (by omega)⟩, HF.out, HBW.out.trans (HB7.out.mono HBW.out.size)⟩
/- As the exact law's walk takes them. -/
theorem pruN_box {g : Int × Int × ByteArray} {D E : List (List ByteArray)} {w w' : World} {v' : Value} (h : PruF g D E) (hD : D.length ≤ 1048576) (hm : ∀ m ∈ D, m.length ≤ 1048576 ∧ ∀ z ∈ m, z.size ≤ 1048576) (ho : OwnT w' w.heap.size w'.heap.size v' E) : E.length ≤ 16777216 ∧ BoxN w' w.heap.size w'.heap.size v' E := by
  have h1 := pruF_len h
  exact ⟨by omega, ho, Nat.le_refl _, by omega, fun m hm9 => pruF_small h (fun m h => (hm m h).1) m hm9⟩
theorem u_Prune {g : Int × Int × ByteArray} {D x x' : List (List ByteArray)} (h : PruF g D x) (h' : PruF g D x') : x = x' := h.only h'
theorem s_Prune (r c : Int) (s : ByteArray) (v : Value) (l : List (List ByteArray)) (w : World) (_hK : ok_Grid (r, c, s)) (hs : s.size ≤ 1048576) (hv : ReadsN w.heap.size w v l) (hl : l.length ≤ 1048576) (hm : ∀ m ∈ l, m.length ≤ 1048576 ∧ ∀ z ∈ m, z.size ≤ 1048576) :
    Calls Tryz.prog 30 #[.agg #[.int .i64 r, .int .i64 c, .string s], v] w fun e w' => ∃ L v', PruF (r, c, s) l L ∧ L.length ≤ 16777216 ∧ e = .returned v' ∧ BoxN w' w.heap.size w'.heap.size v' L ∧ Below w.heap.size w w' :=
  (sprune_any r c s l (by omega) hl hm v w hv).mono fun _ _ ⟨v', E, h1, h2, h3, h4⟩ => ⟨E, v', h3, (pruN_box h3 hl hm h2).1, h1, (pruN_box h3 hl hm h2).2, h4⟩
theorem i_Prune (r c : Int) (s : ByteArray) (v : Value) (l : List (List ByteArray)) (w : World) (_hK : ok_Grid (r, c, s)) (hs : s.size ≤ 1048576) (hv : ReadsN w.heap.size w v l) (hl : l.length ≤ 1048576) (hm : ∀ m ∈ l, m.length ≤ 1048576 ∧ ∀ z ∈ m, z.size ≤ 1048576) :
    Calls Tryz.prog 6 #[.agg #[.int .i64 r, .int .i64 c, .string s], v] w fun e w' => ∃ L v', PruF (r, c, s) l L ∧ L.length ≤ 16777216 ∧ e = .returned v' ∧ BoxN w' w.heap.size w'.heap.size v' L ∧ Below w.heap.size w w' :=
  (iprun_any r c s l (by omega) hl hm v w hv).mono fun _ _ ⟨v', E, h1, h2, h3, h4⟩ => ⟨E, v', h3, (pruN_box h3 hl hm h2).1, h1, (pruN_box h3 hl hm h2).2, h4⟩
end Go.Proofs.YtgjijmcedonlmaaGreatDoor
