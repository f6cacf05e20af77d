/-
  The program's strike: its closure.
-/
import Derived.Test.YtmhgejljjjmejaaSupI
namespace Go.Proofs.Ytmhgejljjjmejaa
open Go.RowKit

set_option maxRecDepth 100000 in
set_option maxHeartbeats 1600000 in
theorem str1_any (x : ByteArray) (n : Int) (Q : List DemV) (hl : Q.length ≤ 16777216) (hq : (x.size : Int) = n → DemOk Q x.size) (k bc bi bd bs ls cs nu cu : Nat) (au : Option Addr) (hk : k < ls) (w : World)
    (h0 : w.cell? ⟨bc, 0, none⟩ = some (.slice (some ⟨bs, 0, none⟩) ls cs)) (h1 : w.cell? ⟨bi, 0, none⟩ = some (.int .i64 (k : Int))) (h2 : w.cell? ⟨bs, k * 4 + 3, none⟩ = some (.int .i64 n)) (h3 : w.cell? ⟨bd, 0, none⟩ = some (.slice au nu cu))
    (hu : ReadsV w.heap.size w (.slice au nu cu) 2 Q.length (Q.flatMap cD)) :
    Calls Try.prog 49 #[.string x, .pointer (some ⟨bc, 0, none⟩), .pointer (some ⟨bi, 0, none⟩), .pointer (some ⟨bd, 0, none⟩)] w fun e w' => e = .returned (.bool (!okQ x n Q)) ∧ Below w.heap.size w w' := by
  have HHS := Lib.hid (fun W h => ihs_any x n Q hl hq (.slice au nu cu) W h)
  have HU := Lib.hid hu
  obtain ⟨t, ht⟩ : ∃ t, t = okQ x n Q := ⟨_, rfl⟩
  rw [← ht] at HHS ⊢
  have HS : Hid (∀ W, Below w.heap.size w W → W.cell? ⟨bc, 0, none⟩ = some (.slice (some ⟨bs, 0, none⟩) ls cs) ∧ W.cell? ⟨bi, 0, none⟩ = some (.int .i64 (k : Int)) ∧ W.cell? ⟨bs, k * 4 + 3, none⟩ = some (.int .i64 n) ∧ W.cell? ⟨bd, 0, none⟩ = some (.slice au nu cu)) := Lib.hid (fun W h =>
    ⟨(h.cell (p := ⟨bc, 0, none⟩) (World.block_lt_of_cell? w _ h0)).trans h0, (h.cell (p := ⟨bi, 0, none⟩) (World.block_lt_of_cell? w _ h1)).trans h1, (h.cell (p := ⟨bs, k * 4 + 3, none⟩) (World.block_lt_of_cell? w _ h2)).trans h2, (h.cell (p := ⟨bd, 0, none⟩) (World.block_lt_of_cell? w _ h3)).trans h3⟩)
  have hk9 : (k : Int) < (ls : Int) := by omega
  have hk0 : (0 : Int) ≤ (k : Int) := by omega
  clear ht hu h0 h1 h2 h3 hq
  go_enter Try.func49, Try.ntmps49
  go_wp2_with fail
  have hbn : Below w.heap.size w w := Below.refl _ _
  go_region_held3 (fun W => W.cell? ⟨bc, 0, none⟩ = some (.slice (some ⟨bs, 0, none⟩) ls cs) ∧ W.cell? ⟨bi, 0, none⟩ = some (.int .i64 (k : Int)) ∧ W.cell? ⟨bs, k * 4 + 3, none⟩ = some (.int .i64 n) ∧ W.cell? ⟨bd, 0, none⟩ = some (.slice au nu cu)) (first | exact HS.out _ hbn | exact HS.out _ hbn.drew) (first | (go_at_call 50; refine Calls.mono (HHS.out _ (by first | exact ReadsV.now HU.out hbn | exact ReadsV.now HU.out hbn.drew)) ?_; rintro e w6 ⟨rfl, b6⟩; have hbn : Below w.heap.size w w6 := (by first | exact hbn.trans (b6.mono hbn.size) | exact hbn.drew.trans (b6.mono hbn.size)); clear b6))
  all_goals go_wp2_with fail
  all_goals go_ret
  all_goals exact ⟨rfl, hbn⟩
/-- A row stored back where it stood: the blocks as before. -/
theorem OwnN.back {α : Type} {f : α → List Value} {s : Nat} {eo ei : TypeId} {W W' : World} {base top : Nat} {v : Value} {us : List Value} {L : List (List α)} {j : Nat} {u : Value} {m : List α} (h : OwnN f s eo ei W base top v us L) (hj : j < L.length)
    (hrow : W'.ownsRow base eo 1 v L.length (us.set j u)) (hu : W'.ownsRow base ei s u m.length (m.flatMap f))
    (hk : ∀ k, k < W.heap.size → v.ownBlock ≠ some k → u.ownBlock ≠ some k → (us.getD j undef).ownBlock ≠ some k → W'.heap[k]? = W.heap[k]?)
    (ha : u.ownBlock = (us.getD j undef).ownBlock) : OwnN f s eo ei W' base top v (us.set j u) (L.set j m) := by
  have h9 := h.put hj hrow hu hk (.inl ha)
  have hl := h.len
  refine ⟨h9.row, h9.inner, h.topv, fun i hi k e => ?_, h9.apart, h9.aparts⟩
  rw [List.length_set] at hi
  by_cases e1 : i = j
  · subst e1
    rw [getD_set_eq (by omega)] at e
    exact h.tops i hi k (ha ▸ e)
  · rw [getD_set_ne (Ne.symm e1)] at e
    exact h.tops i hi k e
set_option maxRecDepth 100000 in
set_option maxHeartbeats 3200000 in
theorem istr_any (l : List SlotV) (X : List CrossV) (C : List (List ByteArray)) (k : Nat) (hk : k < l.length) (hX36 : X.length ≤ 36) (hl72 : l.length ≤ 72) (hC : C.length = l.length) (hm : ∀ m ∈ C, m.length ≤ 1048576 ∧ ∀ z ∈ m, z.size ≤ 1048576) (hxf : XFor X l.length k (l.getD k none_Slot).2.2.2.toNat)
    (base T1 : Nat) (gs cs nm cm : Nat) (am : Option Addr) (g capd : Nat) (us : List Value) (w : World) (hT : T1 ≤ w.heap.size)
    (hsl : w.ownsRow T1 45 4 (.slice (some ⟨gs, 0, none⟩) l.length cs) l.length (row_Slot l)) (hmt : ReadsL cM 3 w.heap.size w (.slice am nm cm) (meetTo X l.length X.length))
    (hd : OwnN fS 1 33 9 w base T1 (.slice (some ⟨g, 0, none⟩) C.length capd) us C) :
    Calls Try.prog 40 #[.agg #[.slice (some ⟨gs, 0, none⟩) l.length cs, .slice am nm cm, .slice (some ⟨g, 0, none⟩) C.length capd], .int .i64 (k : Int)] w fun e w' =>
      e = .returned (.bool (decide (((C.getD k []).filter (okX l X C k)).length < (C.getD k []).length))) ∧ (∃ us', OwnN fS 1 33 9 w' base T1 (.slice (some ⟨g, 0, none⟩) C.length capd) us' (C.set k ((C.getD k []).filter (okX l X C k)))) ∧ KeptOut base T1 w w' := by
  have hkC : k < C.length := by omega
  have HMM : Hid ((meetTo X l.length X.length).getD k [] = meetS X k) := Lib.hid (by rw [meetTo_at X _ _ hk, List.take_length])
  have HML := Lib.hid (meetS_len X X.length k)
  rw [List.take_length] at HML
  have HDE : Hid (∀ W, Below w.heap.size w W → Calls Try.prog 47 #[.agg #[.slice (some ⟨gs, 0, none⟩) l.length cs, .slice am nm cm, .slice (some ⟨g, 0, none⟩) C.length capd], .int .i64 (k : Int)] W fun e w' => ∃ v', e = .returned v' ∧ w'.ownsRow W.heap.size 116 2 v' (demsOf C (meetS X k)).length ((demsOf C (meetS X k)).flatMap cD) ∧ Below W.heap.size W w') := Lib.hid (fun W hW => by
    have h9 := idem_any (.slice (some ⟨gs, 0, none⟩) l.length cs) (meetTo X l.length X.length) C k (by rw [meetTo_length]; exact hk) (by rw [HMM.out]; have := HML.out; omega) (by rw [HMM.out]; intro m hm9; rw [hC]; exact (meet_facts hxf hm9).2) hm ⟨_, _, _, rfl⟩ (.slice am nm cm) (.slice (some ⟨g, 0, none⟩) C.length capd) W (hmt.now hW) (ReadsN.now (OwnT.reads ⟨us, hd⟩ (by omega) (fun m hm9 => by have := (hm m hm9).1; omega)) hW)
    rw [HMM.out, show (meetS X k).length = (demsOf C (meetS X k)).length from (demsOf_length _ _).symm] at h9
    exact h9)
  have HQL : Hid ((demsOf C (meetS X k)).length ≤ 72) := Lib.hid (by rw [demsOf_length]; have := HML.out; omega)
  have HOKD : Hid (∀ x : ByteArray, okQ x (l.getD k none_Slot).2.2.2 (demsOf C (meetS X k)) = okX l X C k x) := Lib.hid (fun x => ok_dems hxf)
  have HDOK : Hid (∀ x : ByteArray, (x.size : Int) = (l.getD k none_Slot).2.2.2 → DemOk (demsOf C (meetS X k)) x.size) := Lib.hid (fun x e => dem_ok hxf e)
  obtain ⟨gs', egs, -, -, -, p3⟩ := slot_cells hsl rfl k hk
  injection egs with egs
  injection egs with egs
  subst egs
  have HP3 := Lib.hid p3
  have HSB2 := Lib.hid ((hsl.lt gs rfl).1)
  have hgc := hd.spot hkC
  obtain ⟨aj, cj, eu⟩ := ownV_slice (hd.inner k hkC)
  rw [eu] at hgc
  have HGC := Lib.hid hgc
  have HEU := Lib.hid eu
  have HHD := Lib.hid hd
  have HMK := Lib.hid (hm _ (show C.getD k [] ∈ C by simp [List.getD, hkC]))
  obtain ⟨M, hM⟩ : ∃ M, M = C.getD k [] := ⟨_, rfl⟩
  rw [← hM] at HGC HEU HMK ⊢
  have HMM2 := Lib.hid hM
  obtain ⟨Q, hQ⟩ : ∃ Q, Q = demsOf C (meetS X k) := ⟨_, rfl⟩
  rw [← hQ] at HDE HQL HOKD HDOK
  obtain ⟨p, hp⟩ : ∃ p : ByteArray → Bool, p = okX l X C k := ⟨_, rfl⟩
  rw [← hp] at HOKD ⊢
  obtain ⟨y, hy⟩ : ∃ y, y = (l.getD k none_Slot).2.2.2 := ⟨_, rfl⟩
  rw [← hy] at HOKD HDOK HP3
  have HT := Lib.hid hT
  have HKC := Lib.hid hkC
  have hk0 : (0 : Int) ≤ (k : Int) := by omega
  have hkn : (k : Int) < (C.length : Int) := by omega
  clear hM hQ hp hy hd hm hmt hsl p3 hgc eu hxf HMM HML hT hC hkC
  go_enter Try.func40, Try.ntmps40
  go_wp2_with fail
  obtain ⟨W1, hW1⟩ : ∃ W1, W1 = (w.alloc (.cells #[.slice (some ⟨gs, 0, none⟩) l.length cs, .slice am nm cm, .slice (some ⟨g, 0, none⟩) C.length capd] 49)).alloc (.cells #[.int .i64 (k : Int)] 3) := ⟨_, rfl⟩
  have HA : Hid (Below w.heap.size w W1) := Lib.hid (by rw [hW1]; exact ((Below.refl _ _).alloc (Nat.le_refl _) _).alloc (by simp) _)
  have hwa : W1.heap.size = w.heap.size + 2 := by rw [hW1]; simp
  have HS : Hid (∀ W, Below W1.heap.size W1 W → (W.cell? ⟨w.heap.size, 0, none⟩ = some (.slice (some ⟨gs, 0, none⟩) l.length cs) ∧ W.cell? ⟨w.heap.size, 1, none⟩ = some (.slice am nm cm) ∧ W.cell? ⟨w.heap.size, 2, none⟩ = some (.slice (some ⟨g, 0, none⟩) C.length capd)) ∧ W.cell? ⟨w.heap.size + 1, 0, none⟩ = some (.int .i64 (k : Int)) ∧ W.cell? ⟨g, k, none⟩ = some (.slice aj M.length cj)) := Lib.hid (fun W h =>
    ⟨⟨(h.cell (p := ⟨w.heap.size, 0, none⟩) (by show w.heap.size < _; omega)).trans (by rw [hW1]; simp), (h.cell (p := ⟨w.heap.size, 1, none⟩) (by show w.heap.size < _; omega)).trans (by rw [hW1]; simp), (h.cell (p := ⟨w.heap.size, 2, none⟩) (by show w.heap.size < _; omega)).trans (by rw [hW1]; simp)⟩, (h.cell (p := ⟨w.heap.size + 1, 0, none⟩) (by show w.heap.size + 1 < _; omega)).trans (by rw [hW1]; simp),
      ((HA.out.trans (h.mono HA.out.size)).cell (p := ⟨g, k, none⟩) (World.block_lt_of_cell? w _ HGC.out)).trans HGC.out⟩)
  have HWA := Lib.hid hwa
  rw [← hW1]
  clear hW1 hwa
  go_cut [5, 6] (fun pt bf wx => ∃ (bd : Nat) (ad : Option Addr) (cd : Nat), pt = .pointer (some ⟨bd, 0, none⟩) ∧ bf = .int .i64 (M.length : Int) ∧ Hid (wx.cell? ⟨bd, 0, none⟩ = some (.slice ad Q.length cd)) ∧ Hid (W1.heap.size ≤ bd) ∧ Hid (wx.ownsRow W1.heap.size 116 2 (.slice ad Q.length cd) Q.length (Q.flatMap cD)) ∧ Hid (Below W1.heap.size W1 wx))
  case first =>
    have hbn : Below W1.heap.size W1 W1 := Below.refl _ _
    go_region_held3 (fun W => (W.cell? ⟨w.heap.size, 0, none⟩ = some (.slice (some ⟨gs, 0, none⟩) l.length cs) ∧ W.cell? ⟨w.heap.size, 1, none⟩ = some (.slice am nm cm) ∧ W.cell? ⟨w.heap.size, 2, none⟩ = some (.slice (some ⟨g, 0, none⟩) C.length capd)) ∧ W.cell? ⟨w.heap.size + 1, 0, none⟩ = some (.int .i64 (k : Int)) ∧ W.cell? ⟨g, k, none⟩ = some (.slice aj M.length cj)) (first | exact HS.out _ hbn | exact HS.out _ hbn.drew | exact HS.out _ (hbn.alloc hbn.size _) | exact HS.out _ (hbn.alloc hbn.size _).drew | exact HS.out _ (hbn.setCell (p := ⟨W1.heap.size, 0, none⟩) (Nat.le_refl _) _) | exact HS.out _ (hbn.setCell (p := ⟨W1.heap.size, 0, none⟩) (Nat.le_refl _) _).drew) (first | (go_at_call 47; refine Calls.mono (HDE.out _ (HA.out.trans ((hbn.alloc hbn.size (.cells #[.slice none 0 0] 79)).drew.mono HA.out.size))) ?_; rintro e w5 ⟨v5, rfl, o5, b5⟩; obtain ⟨a5, c5, rfl⟩ := ownV_slice o5; have HBK := Lib.hid ((b5.block W1.heap.size (by show W1.heap.size < (W1.alloc _).heap.size; simp)).trans (new_block W1 (.cells #[.slice none 0 0] 79))); have hs5 : w5.cell? ⟨W1.heap.size, 0, none⟩ = some (.slice none 0 0) := Joins.cell_of_block HBK.out 0; have hf5 := Joins.unfrozen_of_block HBK.out 0; have HBL : w5.drew.heap[W1.heap.size]? = some (.cells #[.slice none 0 0] 79) := HBK.out; have hs5d : w5.drew.cell? ⟨W1.heap.size, 0, none⟩ = some (.slice none 0 0) := Joins.cell_of_block HBL 0; have hf5d := Joins.unfrozen_of_block HBL 0; clear HBL; have hbn : Below W1.heap.size W1 w5 := (hbn.alloc hbn.size (.cells #[.slice none 0 0] 79)).drew.trans (b5.mono (by show W1.heap.size ≤ (W1.alloc _).heap.size; simp)); have HLT := Lib.hid (fun q e => (o5.lt q e).1); have HO5 := Lib.hid (own_base o5 (show W1.heap.size ≤ (W1.alloc _).heap.size by simp)); clear o5 b5) | (go_at_call 47; refine Calls.mono (HDE.out _ (HA.out.trans (hbn.drew.mono HA.out.size))) ?_; rintro e w5 ⟨v5, rfl, o5, b5⟩; obtain ⟨a5, c5, rfl⟩ := ownV_slice o5; have hbn : Below W1.heap.size W1 w5 := hbn.drew.trans (b5.mono hbn.size); have nA := new_block w5 (.cells #[.slice none 0 0] 79); have hsA : (w5.alloc (.cells #[.slice none 0 0] 79)).cell? ⟨w5.heap.size, 0, none⟩ = some (.slice none 0 0) := Joins.cell_of_block nA 0; have hfA := Joins.unfrozen_of_block nA 0; have nB : (w5.alloc (.cells #[.slice none 0 0] 79)).drew.heap[w5.heap.size]? = some (.cells #[.slice none 0 0] 79) := nA; have hsB : (w5.alloc (.cells #[.slice none 0 0] 79)).drew.cell? ⟨w5.heap.size, 0, none⟩ = some (.slice none 0 0) := Joins.cell_of_block nB 0; have hfB := Joins.unfrozen_of_block nB 0; have nC := new_block w5.drew (.cells #[.slice none 0 0] 79); have hsC : (w5.drew.alloc (.cells #[.slice none 0 0] 79)).cell? ⟨w5.heap.size, 0, none⟩ = some (.slice none 0 0) := Joins.cell_of_block nC 0; have hfC := Joins.unfrozen_of_block nC 0; have nD : (w5.drew.alloc (.cells #[.slice none 0 0] 79)).drew.heap[w5.drew.heap.size]? = some (.cells #[.slice none 0 0] 79) := nC; have hsD : (w5.drew.alloc (.cells #[.slice none 0 0] 79)).drew.cell? ⟨w5.heap.size, 0, none⟩ = some (.slice none 0 0) := Joins.cell_of_block nD 0; have hfD := Joins.unfrozen_of_block nD 0; clear nA nB nC nD; have HO5 := Lib.hid (own_base o5 (show W1.heap.size ≤ W1.drew.heap.size from Nat.le_refl _)); clear o5 b5))
    all_goals (go_wp2_with fail; go_meet)
    · exact ⟨w5.heap.size, a5, c5, rfl, rfl, Lib.hid (by simp), Lib.hid hbn.size, Lib.hid (HO5.out.alloc _), Lib.hid (hbn.alloc hbn.size _)⟩
    · refine ⟨W1.heap.size, a5, c5, rfl, rfl, Lib.hid (Joins.cell_of_block (Joins.block_setCell (i := 0) HBK.out _) 0), Lib.hid (Nat.le_refl _), Lib.hid (ownV_block HO5.out fun q e => heap_setCell_other w5 ⟨W1.heap.size, 0, none⟩ q _ (fun e9 => ?_)), Lib.hid (hbn.setCell (p := ⟨W1.heap.size, 0, none⟩) (Nat.le_refl _) _)⟩
      have h9 := HLT.out q e
      have h8 : (W1.alloc (.cells #[.slice none 0 0] 79)).heap.size = W1.heap.size + 1 := by simp
      rw [e9, show (W1.alloc (.cells #[.slice none 0 0] 79)).drew.heap.size = W1.heap.size + 1 from h8] at h9
      exact absurd h9 (by show ¬ W1.heap.size + 1 ≤ W1.heap.size; omega)
  case rest =>
    obtain ⟨bd, ad, cd, rfl, rfl, HBD, HBS, HOQ, HB⟩ := hcut
    obtain ⟨wb, rfl⟩ : ∃ wb, wb = wc := ⟨wc, rfl⟩
    have HWB := Lib.hid (HA.out.trans (HB.out.mono HA.out.size))
    have HSB := Lib.hid (HS.out wb HB.out)
    have HNB := Lib.hid (HHD.out.later HT.out HWB.out)
    have HRB := Lib.hid (own_sF (HNB.out.inner k HKC.out))
    rw [HEU.out, ← HMM2.out] at HRB
    have HRT : Hid (∀ q, (Value.slice aj M.length cj).ownBlock = some q → base ≤ q ∧ q < T1) := Lib.hid (fun q e => ⟨(HRB.out.lt q e).1, HHD.out.tops k HKC.out q (by rw [HEU.out]; exact e)⟩)
    have HRG : Hid ((Value.slice aj M.length cj).ownBlock ≠ some g) := Lib.hid (by have h9 := HHD.out.apart k HKC.out g rfl; rw [HEU.out] at h9; exact h9)
    have eg : ∀ args w, (callFunc 49 args).run Try.prog w = .ok (.enter 49 args) w := enters_of Try.func49 (by kernel_rfl) rfl
    have HKQ : Hid (∀ W, wb.grownBy W (Value.slice aj M.length cj).ownBlock → ∀ q, T1 ≤ q → q < wb.heap.size → W.heap[q]? = wb.heap[q]?) := Lib.hid (fun W h q h1 h2 => h.block q h2 (fun e => by have := (HRT.out q e.symm).2; omega))
    have HQB : Hid (∀ q, (Value.slice ad Q.length cd).ownBlock = some q → T1 ≤ q ∧ q < wb.heap.size) := Lib.hid (fun q e => by have h9 := HOQ.out.lt q e; have := HA.out.size; have := HT.out; exact ⟨by omega, h9.2⟩)
    have HBL : Hid (bd < wb.heap.size) := Lib.hid (World.block_lt_of_cell? wb _ HBD.out)
    have HPR : Hid (∀ W, wb.grownBy W (Value.slice aj M.length cj).ownBlock → PredS Try.prog 49 #[.pointer (some ⟨w.heap.size, 0, none⟩), .pointer (some ⟨w.heap.size + 1, 0, none⟩), .pointer (some ⟨bd, 0, none⟩)] (fun x => !p x) M W (Value.slice aj M.length cj).ownBlock) := Lib.hid (fun W0 hW0 W z hz hW => by
      have hg := grown_trans hW0 hW
      have hz1 := HWB.out.size
      have hz2 := HT.out
      have hz3 := HA.out.size
      have hz4 := HB.out.size
      have hz5 := HWA.out
      have hsb := HSB.out
      have hne : ∀ q, T1 ≤ q → some q ≠ (Value.slice aj M.length cj).ownBlock := fun q h1 e => by have := (HRT.out q e.symm).2; omega
      have h9 := str1_any z y Q (by have := HQL.out; omega) (HDOK.out z) k w.heap.size (w.heap.size + 1) bd gs l.length cs Q.length cd ad hk W (hg.cell hsb.1.1 (hne _ hz2)) (hg.cell hsb.2.1 (hne _ (by show T1 ≤ w.heap.size + 1; omega))) (hg.cell ((HWB.out.cell (p := ⟨gs, k * 4 + 3, none⟩) (World.block_lt_of_cell? w _ HP3.out)).trans HP3.out) (hne _ HSB2.out)) (hg.cell HBD.out (hne _ (by have := HBS.out; show T1 ≤ bd; omega)))
        (readsV_own (ownV_block HOQ.out fun q e => HKQ.out W hg q (HQB.out q e).1 (HQB.out q e).2) (by have := HQL.out; omega))
      rw [HOKD.out] at h9
      exact h9)
    have HDL : Hid (∀ W, wb.grownBy W (Value.slice aj M.length cj).ownBlock → W.ownsRow base 9 1 (Value.slice aj M.length cj) M.length (M.map Value.string) → Calls Try.prog 48 #[(Value.slice aj M.length cj), .func (.func 49) #[] #[.pointer (some ⟨w.heap.size, 0, none⟩), .pointer (some ⟨w.heap.size + 1, 0, none⟩), .pointer (some ⟨bd, 0, none⟩)]] W fun e w' => ∃ v', e = .returned v' ∧ v'.ownBlock = (Value.slice aj M.length cj).ownBlock ∧ w'.ownsRow base 9 1 v' (M.filter p).length ((M.filter p).map Value.string) ∧ W.grownBy w' (Value.slice aj M.length cj).ownBlock) := Lib.hid (fun W hW hown => by
      have h9 := delS_any 49 #[.pointer (some ⟨w.heap.size, 0, none⟩), .pointer (some ⟨w.heap.size + 1, 0, none⟩), .pointer (some ⟨bd, 0, none⟩)] eg (fun x => !p x) M (by have := HMK.out.1; omega) base (Value.slice aj M.length cj) W hown (HPR.out W hW)
      rw [show delL (fun x => !p x) M = M.filter p from by unfold delL; simp] at h9
      exact h9)
    have HSS : Hid (∀ W, wb.grownBy W (Value.slice aj M.length cj).ownBlock → (W.cell? ⟨w.heap.size, 0, none⟩ = some (.slice (some ⟨gs, 0, none⟩) l.length cs) ∧ W.cell? ⟨w.heap.size, 1, none⟩ = some (.slice am nm cm) ∧ W.cell? ⟨w.heap.size, 2, none⟩ = some (.slice (some ⟨g, 0, none⟩) C.length capd)) ∧ W.cell? ⟨w.heap.size + 1, 0, none⟩ = some (.int .i64 (k : Int)) ∧ W.cell? ⟨g, k, none⟩ = some (.slice aj M.length cj)) := Lib.hid (fun W hg => by
      have hz2 := HT.out
      have hsb := HSB.out
      have hne : ∀ q, T1 ≤ q → some q ≠ (Value.slice aj M.length cj).ownBlock := fun q h1 e => by have := (HRT.out q e.symm).2; omega
      exact ⟨⟨hg.cell hsb.1.1 (hne _ hz2), hg.cell hsb.1.2.1 (hne _ hz2), hg.cell hsb.1.2.2 (hne _ hz2)⟩, hg.cell hsb.2.1 (hne _ (by show T1 ≤ w.heap.size + 1; omega)), hg.cell hsb.2.2 (fun e => HRG.out e.symm)⟩)
    have HRR : Hid (∀ W, wb.grownBy W (Value.slice aj M.length cj).ownBlock → W.ownsRow base 33 1 (.slice (some ⟨g, 0, none⟩) C.length capd) C.length us) := Lib.hid (fun W hg => ownV_block HNB.out.row fun q e => hg.block q (HNB.out.row.lt q e).2 (fun e9 => by cases e; exact HRG.out e9.symm))
    have hmf := hs1_val
    have HEL := Lib.hid HHD.out.len
    clear eg
    go_wp2_with fail
    go_cut [] (fun wx => ∃ (us' : List Value) (a6 : Option Addr) (c6 : Nat), Hid (OwnN fS 1 33 9 wx base T1 (.slice (some ⟨g, 0, none⟩) C.length capd) us' (C.set k (M.filter p))) ∧ Hid (KeptOut base T1 w wx) ∧ wx.cell? ⟨w.heap.size, 2, none⟩ = some (.slice (some ⟨g, 0, none⟩) C.length capd) ∧ wx.cell? ⟨w.heap.size + 1, 0, none⟩ = some (.int .i64 (k : Int)) ∧ wx.cell? ⟨g, k, none⟩ = some (.slice a6 (M.filter p).length c6))
    case first =>
      have hgk : wb.cell? ⟨g, k, none⟩ = some (.slice aj M.length cj) := HSB.out.2.2
      have hgkd : wb.drew.cell? ⟨g, k, none⟩ = some (.slice aj M.length cj) := HSB.out.2.2
      refine wp_region_held_drew (S := (fun W => (W.cell? ⟨w.heap.size, 0, none⟩ = some (.slice (some ⟨gs, 0, none⟩) l.length cs) ∧ W.cell? ⟨w.heap.size, 1, none⟩ = some (.slice am nm cm) ∧ W.cell? ⟨w.heap.size, 2, none⟩ = some (.slice (some ⟨g, 0, none⟩) C.length capd)) ∧ W.cell? ⟨w.heap.size + 1, 0, none⟩ = some (.int .i64 (k : Int)))) (by kernel_rfl) ?_ (fun hHeld => ?_)
      · exact ⟨HSB.out.1, HSB.out.2.1⟩
      refine wpAnyH_take (i := 0) (v := ?_) rfl (by kernel_rfl) (by kernel_rfl) (by kernel_rfl) (fun _ _ _ h => h) (Or.inl ⟨by rfl, ?_⟩) (by assumption) ?_
      rotate_left
      · intro w9 hSw
        try dsimp only at hSw
        go_simp
        all_goals with_reducible rfl
      try simp only [Act.put, List.setIfInBounds_toArray]
      refine wpAnyH_take (i := 1) (v := ?_) rfl (by kernel_rfl) (by kernel_rfl) (by kernel_rfl) (fun _ _ _ h => h) (Or.inl ⟨by rfl, ?_⟩) (by assumption) ?_
      rotate_left
      · intro w9 hSw
        try dsimp only at hSw
        go_simp
        all_goals with_reducible rfl
      try simp only [Act.put]
      refine wpAnyH_take (i := 2) (v := ?_) rfl (by kernel_rfl) (by kernel_rfl) (by kernel_rfl) (fun _ _ _ h => h) (Or.inl ⟨by rfl, ?_⟩) (by assumption) ?_
      rotate_left
      · intro w9 hSw
        try dsimp only at hSw
        go_simp
        all_goals with_reducible rfl
      try simp only [Act.put]
      refine wpAnyH_take (i := 3) (v := ?_) rfl (by kernel_rfl) (by kernel_rfl) (by kernel_rfl) (fun _ _ _ h => h) (Or.inl ⟨by rfl, ?_⟩) (by assumption) ?_
      rotate_left
      · intro w9 hSw
        try dsimp only at hSw
        go_simp
        all_goals with_reducible rfl
      try simp only [Act.put]
      refine wpAnyH_take (i := 4) (v := ?_) rfl (by kernel_rfl) (by kernel_rfl) (by kernel_rfl) (fun _ _ _ h => h) (Or.inl ⟨by rfl, ?_⟩) (by assumption) ?_
      rotate_left
      · intro w9 hSw
        try dsimp only at hSw
        go_simp
        all_goals with_reducible rfl
      try simp only [Act.put]
      refine wpAnyH_take (i := 5) (v := ?_) rfl (by kernel_rfl) (by kernel_rfl) (by kernel_rfl) (fun _ _ _ h => h) (Or.inl ⟨by rfl, ?_⟩) (by assumption) ?_
      rotate_left
      · intro w9 hSw
        try dsimp only at hSw
        go_simp
        all_goals with_reducible rfl
      try simp only [Act.put]
      refine wpAnyH_take (i := 6) (v := ?_) rfl (by kernel_rfl) (by kernel_rfl) (by kernel_rfl) (fun _ _ _ h => h) (Or.inl ⟨by rfl, ?_⟩) (by assumption) ?_
      rotate_left
      · intro w9 hSw
        try dsimp only at hSw
        go_simp
        all_goals with_reducible rfl
      try simp only [Act.put]
      refine wpAnyH_take (i := 8) (v := ?_) rfl (by kernel_rfl) (by kernel_rfl) (by kernel_rfl) (fun _ _ _ h => h) (Or.inl ⟨by rfl, ?_⟩) (by assumption) ?_
      rotate_left
      · intro w9 hSw
        try dsimp only at hSw
        go_simp
        all_goals with_reducible rfl
      try simp only [Act.put]
      refine wpAnyH_ready (rs := [7]) (by kernel_rfl) (by simp) ?_
      refine AllReadyH.cons rfl (fun K hK => ?_) ?_
      · go_simp
        refine hK.out _ _ ?_ (fun hHeld2 => ?_)
        · (try dsimp only)
          exact ⟨HSB.out.1, HSB.out.2.1⟩
        clear hK K hHeld
        have hHeld := hHeld2
        clear hHeld2
        refine wpAnyH_ready (rs := [9]) (by kernel_rfl) (by simp) ?_
        refine AllReadyH.cons rfl (fun K hK => ?_) ?_
        · go_simp
          go_at_call 48
          refine Calls.mono (HDL.out _ ⟨rfl, rfl, rfl, Nat.le_refl _, fun _ _ _ => rfl⟩ HRB.out.drew) ?_
          rintro e w6 ⟨v6, rfl, hob, o6, hg6⟩
          obtain ⟨a6, c6, rfl⟩ := ownV_slice o6
          have HG6 : Hid (wb.grownBy w6 (Value.slice aj M.length cj).ownBlock) := Lib.hid ⟨hg6.os, hg6.tape, hg6.output, hg6.size, hg6.block⟩
          have HO6 := Lib.hid o6
          have HOB := Lib.hid hob
          have hS6 := HSS.out w6 HG6.out
          have c6k := hS6.2.2
          have HR6 := Lib.hid (HRR.out w6 HG6.out)
          have hf6 := HR6.out.frozenAt k
          clear hob o6 hg6
          (try go_wp2_with fail)
          refine hK.out _ _ ?_ (fun hHeld2 => ?_)
          · (try dsimp only)
            exact ⟨hS6.1, hS6.2.1⟩
          clear hK K hHeld
          have hHeld := hHeld2
          clear hHeld2
          have hst := HR6.out.stored k (.slice a6 (M.filter p).length c6)
          have HS7 := Lib.hid hst
          clear hst
          have hS7 := (fun (q : Nat) (x : Value) (j : Nat) (h : w6.cell? ⟨q, j, none⟩ = some x) (hne : q ≠ g) => HS7.out.2.cell (a := ⟨q, j, none⟩) h (fun e => hne (by injection e)))
          have hgT : base ≤ g ∧ g < T1 := ⟨(HNB.out.low g rfl).1, HHD.out.topv g rfl⟩
          have hwT := HT.out
          have x0 := hS7 _ _ _ hS6.1.1 (by omega)
          have x1 := hS7 _ _ _ hS6.1.2.1 (by omega)
          have x2 := hS7 _ _ _ hS6.1.2.2 (by omega)
          have x3 := hS7 _ _ _ hS6.2.1 (by omega)
          clear hS7
          refine wpAnyH_take (i := 10) (v := ?_) rfl (by kernel_rfl) (by kernel_rfl) (by kernel_rfl) (fun _ _ _ h => h) (Or.inl ⟨by rfl, ?_⟩) (by assumption) ?_
          rotate_left
          · intro w9 hSw
            try dsimp only at hSw
            go_simp
            all_goals with_reducible rfl
          try simp only [Act.put, List.setIfInBounds_toArray]
          refine wpAnyH_ready (rs := [11]) (by kernel_rfl) (by simp) ?_
          refine AllReadyH.cons rfl (fun K hK => ?_) ?_
          · go_simp
            refine hK.out _ _ ?_ (fun hHeld2 => ?_)
            · (try dsimp only)
              exact ⟨⟨x0, x1, x2⟩, x3⟩
            clear hK K hHeld
            have hHeld := hHeld2
            clear hHeld2
            refine wpAnyH_done (by kernel_rfl) ?_ _
            go_wp2_with fail
            go_meet
            have hst2 := HS7.out
            have hl9 := HEL.out
            have hkc := HKC.out
            have HN7 := OwnN.back (m := M.filter p) HNB.out hkc hst2.1 (own_fS (ownV_block HO6.out fun q e => heap_setCell_other w6 ⟨g, k, none⟩ q _ (fun e9 => HRG.out (by rw [← HOB.out, e, e9])))) (fun q h1 h2 h3 _ => (heap_setCell_other w6 ⟨g, k, none⟩ q _ (fun e9 => h2 (by rw [e9]; rfl))).trans (HG6.out.block q h1 (fun e9 => h3 (by rw [HOB.out]; exact e9.symm)))) (by rw [HEU.out]; exact HOB.out)
            have HK7 := ((⟨HWB.out.os, HWB.out.tape, HWB.out.output, HWB.out.size, fun q hq _ => HWB.out.block q hq⟩ : KeptOut base T1 w wb).trans (KeptOut.of_grown HG6.out HRT.out)).trans (KeptOut.of_grown hst2.2 (fun q e => by cases e; exact hgT))
            have x4 := HN7.spot (j := k) (by rw [List.length_set]; exact hkc)
            rw [getD_set_eq (by omega)] at x4
            exact ⟨_, a6, c6, Lib.hid HN7, Lib.hid HK7, x2, x3, x4⟩
          exact AllReadyH.nil
        exact AllReadyH.nil
      exact AllReadyH.nil
    case rest =>
      obtain ⟨us', a6, c6, HN, HK, e2, e1, e4⟩ := hcut
      obtain ⟨FL, hFL⟩ : ∃ FL, FL = M.filter p := ⟨_, rfl⟩
      have HFE := Lib.hid hFL
      rw [← hFL] at HN e4
      have HD9 : Hid (decide ((FL.length : Int) < (M.length : Int)) = decide (FL.length < M.length)) := Lib.hid (by simp)
      have hkn2 : (k : Int) < ((C.set k FL).length : Int) := by rw [List.length_set]; exact hkn
      clear hFL
      go_wp2_with fail
      go_ret
      rw [← HFE.out]
      exact ⟨by rw [← HD9.out]; rfl, ⟨us', HN.out⟩, HK.out⟩
end Go.Proofs.Ytmhgejljjjmejaa
