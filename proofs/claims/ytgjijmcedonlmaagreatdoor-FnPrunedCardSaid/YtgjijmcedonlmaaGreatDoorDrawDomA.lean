/-
  The draws of chapter 12: some words; a grid, a fill and domains.
-/
import Derived.Test.YtgjijmcedonlmaaGreatDoorDrawFillB
import Derived.Test.YtgjijmcedonlmaaGreatDoorDomsOf
import Derived.Test.YtgjijmcedonlmaaGreatDoorCandJ
import Derived.Deep.RegionHeld3
namespace Go.Proofs.YtgjijmcedonlmaaGreatDoor
open Go.RowKit

/-- What a draw of some words leaves. -/
def SomeDrawn12 (B : Nat) (w : World) (c n cap : Nat) (a0 : Option Addr) (e : Ending) (w' : World) : Prop :=
  ∃ (L : List ByteArray) (v : Value), L.length ≤ 35 ∧ (∀ z ∈ L, z.size ≤ 5) ∧ e = .returned v ∧ w'.ownsRow w.heap.size 9 1 v L.length (L.map Value.string) ∧ Cur B w' c n cap a0 ∧ w.grownBy w' (some c)
theorem one_srcD (W : World) (v : Value) (t : TypeId) : ∀ j, j < 1 * 1 → ∃ b off, (some ⟨W.heap.size, 0, none⟩ : Option Addr) = some ⟨b, off, none⟩ ∧ (W.alloc (.cells #[v] t)).cell? ⟨b, off + j, none⟩ = [v][j]? := fun j hj => by
  obtain rfl : j = 0 := by omega
  exact ⟨W.heap.size, 0, rfl, by simp⟩
set_option maxRecDepth 100000 in
set_option maxHeartbeats 1600000 in
theorem some12_any (B : Nat) (w : World) (c n cap : Nat) (a0 : Option Addr) (hk : Cur B w c n cap a0) :
    Calls Tryz.prog 38 #[.pointer (some ⟨c, 0, none⟩)] w (SomeDrawn12 B w c n cap a0) := by
  obtain ⟨i0, hi, hz0, hz1, hz2⟩ := info_parts infoStr
  have hclt := cur_lt hk
  have hBc := hk.1
  go_enter Tryz.func38, Tryz.ntmps38
  go_wp2_with (go_at_call 80; refine (ws4_any _).mono ?_; rintro e w1 ⟨o, rfl, rfl, hl⟩; have HL := Lib.hid hl; clear hl)
  obtain ⟨W1, hW1⟩ : ∃ W1, W1 = w.alloc o := ⟨_, rfl⟩
  have hws : W1.heap.size = w.heap.size + 1 := by rw [hW1]; simp
  have HK1 : Hid (Cur B W1 c n cap a0) := Lib.hid (by rw [hW1]; exact hk.alloc _)
  have HG1 : Hid (w.grownBy W1 (some c)) := Lib.hid (by rw [hW1]; exact World.grownBy_alloc w o _)
  rw [← hW1] at HL ⊢
  clear hW1
  have HWS := Lib.hid hws
  clear hk
  have HK2 := Lib.hid (HK1.out.alloc (.cells #[] 9))
  have HO2 : Hid ((W1.alloc (.cells #[] 9)).ownsRow W1.heap.size 9 1 (.slice (some ⟨w.heap.size + 1, 0, none⟩) 0 0) 0 []) := Lib.hid (by rw [← hws]; exact own_empty2 W1 _ 1)
  clear hws
  have HG2 : Hid (W1.grownBy (W1.alloc (.cells #[] 9)) (some c)) := Lib.hid (World.grownBy_alloc W1 _ _)
  go_loopw [4, 5] (fun o i wr => ∃ (k : Nat) (L : List ByteArray), k ≤ 35 ∧ i = .int .i64 (k : Int) ∧ L.length ≤ k ∧ Hid (∀ z ∈ L, z.size ≤ 5) ∧ Hid (wr.ownsRow W1.heap.size 9 1 o L.length (L.map Value.string)) ∧ Hid (Cur B wr c n cap a0) ∧ Hid (W1.grownBy wr (some c))) (fun _ i _ => 35 - (intOf i).toNat)
  case atStart => exact ⟨0, [], by omega, rfl, Nat.le_refl _, Lib.hid (by simp), HO2, HK2, HG2⟩
  case round =>
    clear HO2 HK2 HG2
    obtain ⟨k, L, hk35, rfl, hLk, HZ, HO, HK, HG⟩ := hrel
    have hsz := HG.out.size
    have hw1 := HWS.out
    by_cases hlt : k < 35
    · have hd : decide ((k : Int) < 35) = true := decide_eq_true (by omega)
      obtain ⟨z, hz5, q0⟩ := HL.out k hlt
      have HZ5 := Lib.hid hz5
      clear hz5
      have hki : (k : Int) < 35 := by omega
      have HZL : Hid (∀ y ∈ L ++ [z], y.size ≤ 5) := Lib.hid (fun y hy => by
        rcases List.mem_append.1 hy with h | h
        · exact HZ.out y h
        · rw [List.mem_singleton.1 h]; exact HZ5.out)
      go_wp2_with (first | (go_at_call 29; refine (once_any 3 (by decide) (by decide) B _ c n cap a0 HK.out).mono ?_; rintro e w2 ⟨v, ⟨t, rfl⟩, rfl, hk2, hg2⟩; have HK2 := Lib.hid hk2; have HG2 := Lib.hid (gtrans HG.out hg2); have HO2 := Lib.hid (HO.out.kept hg2 (own_not HO.out (by omega))); have hs2 := hg2.size; clear hk2 hg2; have c0 : w2.cell? ⟨w.heap.size, k, none⟩ = some (.string z) := HG2.out.cell q0 (by simp; omega); cases t) | (at_builtin; refine appendV_reads _ rfl _ _ 34 rfl W1.heap.size 9 i0 (.string ⟨#[]⟩) 1 16 Tryz.underlying34 hi hz0 hz1 hz2 rfl (by decide) _ _ _ rfl (HO2.out.alloc _) (some ⟨w2.heap.size, 0, none⟩) 1 1 [.string z] rfl rfl (by simp [Value.oneCell']) (fun e => by cases e) (one_srcD w2 _ _) (by omega) (by omega) (le_alloc (by omega) _) ?_; intro v7 w7 hown hgrow))
      · have HO7 : Hid (w7.ownsRow W1.heap.size 9 1 v7 (L ++ [z]).length ((L ++ [z]).map Value.string)) := Lib.hid (by rw [List.length_append, List.map_append]; exact hown)
        have HK7 : Hid (Cur B w7 c n cap a0) := Lib.hid ((HK2.out.alloc _).kept_own hgrow (HO2.out.alloc _) (by omega) (by omega))
        have HG7 : Hid (W1.grownBy w7 (some c)) := Lib.hid (grown_own (gtrans HG2.out (World.grownBy_alloc w2 _ _)) hgrow (HO2.out.alloc _) (Nat.le_refl _))
        clear hown hgrow
        go_roundw
        case rel => exact ⟨k + 1, L ++ [z], by omega, by go_num, by simp; omega, HZL, HO7, HK7, HG7⟩
        case measure => simp [intOf]; omega
      · go_wp2_with fail
        go_roundw
        case rel => exact ⟨k + 1, L, by omega, by go_num, by omega, HZ, HO2, HK2, HG2⟩
        case measure => simp [intOf]; omega
    · have hd : decide ((k : Int) < 35) = false := decide_eq_false (by omega)
      go_wp2
      go_ret
      exact ⟨L, _, by omega, HZ.out, rfl, own_base HO.out (by omega), HK.out, gtrans HG1.out HG.out⟩
theorem gdrew {a w : World} {r : Option Nat} (h : a.grownBy w r) : a.grownBy w.drew r := ⟨h.os, h.tape, h.output, h.size, h.block⟩
theorem grefl (w : World) (r : Option Nat) : w.grownBy w r := ⟨rfl, rfl, rfl, Nat.le_refl _, fun _ _ _ => rfl⟩
theorem domsF_in (g : Int × Int × ByteArray) (f : ByteArray) (ws : List ByteArray) : ∀ m ∈ domsF g f ws, ∀ z ∈ m, z ∈ ws := by
  intro m hm z hz
  unfold domsF at hm
  split at hm
  · unfold domsTo at hm
    obtain ⟨i, -, rfl⟩ := List.mem_map.1 hm
    exact (List.mem_filter.1 hz).1
  · cases hm
/-- What stays readable while the blocks from b0 on are kept. -/
def KeepN (b0 : Nat) (w' : World) (v : Value) (D : List (List ByteArray)) : Prop := ∀ W : World, w'.heap.size ≤ W.heap.size → (∀ k, b0 ≤ k → k < w'.heap.size → W.heap[k]? = w'.heap[k]?) → ReadsN W.heap.size W v D
theorem KeepN.mono {b0 b1 : Nat} {w' : World} {v : Value} {D : List (List ByteArray)} (h : KeepN b0 w' v D) (hb : b1 ≤ b0) : KeepN b1 w' v D := fun W hs hk => h W hs (fun k h1 h2 => hk k (by omega) h2)
theorem KeepN.now {b0 : Nat} {w' : World} {v : Value} {D : List (List ByteArray)} (h : KeepN b0 w' v D) : ReadsN w'.heap.size w' v D := h w' (Nat.le_refl _) (fun _ _ _ => rfl)
theorem KeepN.kept {b0 : Nat} {w' w'' : World} {v : Value} {D : List (List ByteArray)} (h : KeepN b0 w' v D) (hs : w'.heap.size ≤ w''.heap.size) (hk : ∀ k, b0 ≤ k → k < w'.heap.size → w''.heap[k]? = w'.heap[k]?) : KeepN b0 w'' v D := fun W hs2 hk2 => h W (by omega) (fun k h1 h2 => (hk2 k h1 (by omega)).trans (hk k h1 h2))
theorem keepN_own {W : World} {b0 top : Nat} {v : Value} {D : List (List ByteArray)} (h : OwnT W b0 top v D) (ht : top ≤ W.heap.size) (hl : D.length ≤ 140737488355328) (hm : ∀ m ∈ D, m.length ≤ 140737488355328) : KeepN b0 W v D := fun _ _ hk => (h.kept (fun k h1 h2 => hk k h1 (by omega))).reads hl hm
theorem reads_tailN {B : Nat} {W : World} {g cap : Nat} {m : List ByteArray} {D : List (List ByteArray)} (h : ReadsN B W (.slice (some ⟨g, 0, none⟩) (D.length + 1) cap) (m :: D)) : ReadsN B W (.slice (some ⟨g, 1, none⟩) D.length (cap - 1)) D := by
  obtain ⟨us, ⟨h0, hx, a0, c0, e, hc, h⟩, hi⟩ := h
  rw [List.length_cons] at h0 hx h hi
  injection e with e1 e2 e3
  subst e1 e3
  refine ⟨us.tail, ⟨by omega, by rw [List.length_tail]; omega, _, _, rfl, ⟨(fun e => by cases e), by have := hc.2.1; rw [List.length_cons] at this; omega, by have := hc.2.2; omega⟩, fun j hj => ?_⟩, fun j hj => ?_⟩
  · obtain ⟨b, off, e1, e2, e3⟩ := h (j + 1) (by omega)
    injection e1 with e1
    injection e1 with e4 e5
    subst e4 e5
    refine ⟨g, 1, rfl, e2, ?_⟩
    rw [Nat.zero_add] at e3
    rw [Nat.add_comm 1 j, e3, List.getElem?_tail]
  · have h9 := hi (j + 1) (by omega)
    rw [List.getD_cons_succ] at h9
    have e9 : us.tail.getD j undef = us.getD (j + 1) undef := by rw [List.getD_eq_getElem?_getD, List.getD_eq_getElem?_getD, List.getElem?_tail]
    rw [e9]
    exact h9
theorem reads_noneN (B : Nat) (W : World) (a0 : Option Addr) : a0 ≠ none → ReadsN B W (.slice a0 0 0) [] := fun h => ⟨[], ⟨by decide, rfl, a0, 0, rfl, ⟨fun e => absurd e h, Nat.le_refl _, by decide⟩, fun j hj => absurd hj (by simp)⟩, fun j hj => absurd hj (by simp)⟩
theorem ownT_set {W : World} {base top : Nat} {v : Value} {D : List (List ByteArray)} (h : OwnT W base top v D) {g : Nat} (hg : g < base) (j : Nat) (u : Value) : OwnT (W.setCell ⟨g, j, none⟩ u) base top v D :=
  h.kept fun k h1 _ => heap_setCell_other W ⟨g, j, none⟩ k u (by show k ≠ g; omega)
/-- A grid, a fill and domains. -/
def Dom12 (B : Nat) (w : World) (c n cap : Nat) (a0 : Option Addr) (e : Ending) (w' : World) : Prop :=
  ∃ (r k : Int) (s f : ByteArray) (v : Value) (D : List (List ByteArray)), isG (r, k, s) = true ∧ f.size ≤ 36 ∧ D.length ≤ 72 ∧ (∀ m ∈ D, m.length ≤ 36 ∧ ∀ z ∈ m, z.size ≤ 10) ∧ e = .returned (.tuple #[.agg #[.int .i64 r, .int .i64 k, .string s], .string f, v]) ∧ KeepN w.heap.size w' v D ∧ Cur B w' c n cap a0 ∧ w.grownBy w' (some c)
set_option maxRecDepth 100000 in
set_option maxHeartbeats 3200000 in
theorem draw12_any (B : Nat) (w : World) (c n cap : Nat) (a0 : Option Addr) (hk : Cur B w c n cap a0) :
    Calls Tryz.prog 19 #[.pointer (some ⟨c, 0, none⟩)] w (Dom12 B w c n cap a0) := by
  go_enter Tryz.func19, Tryz.ntmps19
  go_wp2_with fail
  obtain ⟨W0, hW0⟩ : ∃ W0, W0 = w.alloc (.cells #[.int .i64 0, .int .i64 0, .string ⟨#[]⟩] 25) := ⟨_, rfl⟩
  have HR0 : Hid (W0.heap[w.heap.size]? = some (.cells #[.int .i64 0, .int .i64 0, .string ⟨#[]⟩] 25)) := Lib.hid (by rw [hW0]; exact new_block w _)
  have hk0 : Cur B W0 c n cap a0 := by rw [hW0]; exact hk.alloc _
  have HG0 : Hid (w.grownBy W0 (some c)) := Lib.hid (by rw [hW0]; exact World.grownBy_alloc w _ _)
  have hwc : w.heap.size ≠ c := hk.ne
  have hBc : B ≤ c := hk.1
  have hcw : c < w.heap.size := cur_lt hk
  rw [← hW0]
  clear hW0 hk
  go_wp2_with (first | (go_at_call 35; refine (draw7G_any B _ c n cap a0 hk0).mono ?_; rintro e w1 ⟨v, ⟨gr, gc, gs, hisg, rfl⟩, rfl, hk1, hg1⟩; have HR1 := Lib.hid ((hg1.block w.heap.size (size_of_heap HR0.out) (by simpa using hwc)).trans HR0.out); have HG1 := Lib.hid (gtrans HG0.out hg1); have HK1 := Lib.hid hk1; have HISG := Lib.hid hisg; clear hk0 hk1 hg1 hisg) | (go_at_call 36; refine (ldf_any B _ c n cap a0 (HK1.out.alloc (.cells #[.int .i64 gr, .int .i64 gc, .string gs] 25)) gr gc gs HISG.out).mono ?_; rintro e w2 ⟨v, ⟨f, hf1, hf36, rfl⟩, rfl, hk2, hg2⟩; have HR2 := Lib.hid ((hg2.block w.heap.size (by have := size_of_heap HR1.out; simp; omega) (by simpa using hwc)).trans ((Below.heap_alloc w1 (.cells #[.int .i64 gr, .int .i64 gc, .string gs] 25) w.heap.size (size_of_heap HR1.out)).trans HR1.out)); have HB2 := Lib.hid ((hg2.block w1.heap.size (by simp) (by have := cur_lt HK1.out; simp; omega)).trans (new_block w1 (.cells #[.int .i64 gr, .int .i64 gc, .string gs] 25))); have HG2 := Lib.hid (gtrans HG1.out (gtrans (World.grownBy_alloc w1 (.cells #[.int .i64 gr, .int .i64 gc, .string gs] 25) _) hg2)); have HK2 := Lib.hid hk2; clear hk2 hg2))
  obtain ⟨q4, q36, qr, qc⟩ := isG_four HISG.out
  dsimp only at q4 q36 qr qc
  have HDO := Lib.hid (fun (L : List ByteArray) (hL : L.length ≤ 1048576) v w hv => sdom_any gr gc gs f L (by omega) (by omega) hL v w hv)
  have hww : w.heap.size < w1.heap.size := size_of_heap HR1.out
  have hw12 : w1.heap.size < w2.heap.size := size_of_heap HB2.out
  have h1c : w1.heap.size ≠ c := by omega
  have HSX : Hid (∀ W : World, w2.grownBy W (some c) → W.cell? ⟨w1.heap.size, 0, none⟩ = some (.int .i64 gr) ∧ W.cell? ⟨w1.heap.size, 1, none⟩ = some (.int .i64 gc) ∧ W.cell? ⟨w1.heap.size, 2, none⟩ = some (.string gs)) := Lib.hid (fun W h => by
    obtain ⟨x0, x1, x2, -⟩ := cells3 ((h.block w1.heap.size hw12 (by simpa using h1c)).trans HB2.out)
    exact ⟨x0, x1, x2⟩)
  go_cut [7] (fun v wx => ∃ (L : List ByteArray) (b0 : Nat), Hid (L.length ≤ 35 ∧ ∀ z ∈ L, z.size ≤ 5) ∧ Hid (w2.heap.size ≤ b0) ∧ Hid (OwnT wx b0 wx.heap.size v (domsF (gr, gc, gs) f L)) ∧ Hid (Cur B wx c n cap a0) ∧ Hid (w2.grownBy wx (some c)))
  case first =>
    have hbn : w2.grownBy w2 (some c) := grefl w2 _
    go_region_held3 (fun W => W.cell? ⟨w1.heap.size, 0, none⟩ = some (.int .i64 gr) ∧ W.cell? ⟨w1.heap.size, 1, none⟩ = some (.int .i64 gc) ∧ W.cell? ⟨w1.heap.size, 2, none⟩ = some (.string gs)) (first | exact HSX.out _ hbn | exact HSX.out _ (gdrew hbn)) (first | (go_at_call 38; refine Calls.mono (some12_any B _ c n cap a0 (by first | exact HK2.out | exact cur_below HK2.out (Below.refl _ _).drew)) ?_; rintro e w3 ⟨L, v3, hL, hz, rfl, o3, hk3, hg3⟩; have HL := Lib.hid (And.intro hL hz); have HO3 := Lib.hid o3; have HK3 := Lib.hid hk3; have hs3 := hg3.size; have hbm : w2.grownBy w3 (some c) := (by first | exact gtrans hbn hg3 | exact gtrans (gdrew hbn) hg3); clear hbn hg3 hk3 o3; have hbn := hbm; clear hbm) | (go_at_call 37; refine Calls.mono (HDO.out L (by omega) v3 _ (by first | exact readsS_own HO3.out rfl (by omega) | exact ReadsV.now (readsS_own HO3.out rfl (by omega)) (Below.refl _ _).drew)) ?_; rintro e w4 ⟨v4, rfl, o4, b4⟩; have HT4 : Hid (OwnT w4 w3.heap.size w4.heap.size v4 (domsF (gr, gc, gs) f L)) := Lib.hid o4; have HK4 : Hid (Cur B w4 c n cap a0) := Lib.hid (by first | exact cur_below HK3.out b4 | exact cur_below (cur_below HK3.out (Below.refl _ _).drew) b4); have hbm : w2.grownBy w4 (some c) := (by first | exact gtrans hbn (grows_of_below b4) | exact gtrans (gdrew hbn) (grows_of_below b4)); clear hbn b4 o4; have hbn := hbm; clear hbm))
    all_goals go_wp2_with fail
    all_goals go_meet
    all_goals exact ⟨L, w3.heap.size, HL, Lib.hid hs3, HT4, HK4, Lib.hid hbn⟩
  case rest =>
    obtain ⟨L, b0, HL, HB0, HT, HK5, HG5⟩ := hcut
    obtain ⟨wd, rfl⟩ : ∃ x, x = wc := ⟨wc, rfl⟩
    have hb0 := HB0.out
    have HDL := Lib.hid (domsF_few (gr, gc, gs) f L)
    have HDM : Hid (∀ m ∈ domsF (gr, gc, gs) f L, m.length ≤ 35 ∧ ∀ z ∈ m, z.size ≤ 5) := Lib.hid (fun m hm => ⟨Nat.le_trans (domsF_short _ _ _ m hm) HL.out.1, fun z hz => HL.out.2 z (domsF_in _ _ _ m hm z hz)⟩)
    obtain ⟨D, hD⟩ : ∃ D, D = domsF (gr, gc, gs) f L := ⟨_, rfl⟩
    rw [← hD] at HT HDL HDM
    have hd72 := HDL.out
    have HG6 := Lib.hid (gtrans HG2.out HG5.out)
    have HR6 := Lib.hid ((HG5.out.block w.heap.size (by omega) (by simpa using hwc)).trans HR2.out)
    have HX6 := Lib.hid (HSX.out wd HG5.out)
    have HXB := Lib.hid ((HG5.out.block w1.heap.size hw12 (by simpa using h1c)).trans HB2.out)
    clear hD HSX HDO HG5 HR2 HB2 HK2 HG2 HR1 HG1 HK1 HR0 HG0
    obtain ⟨ad, cd, rfl⟩ : ∃ ad cd, u7 = .slice ad D.length cd := by
      obtain ⟨us, hn⟩ := HT.out
      obtain ⟨a, c, e⟩ := ownV_slice hn.row
      exact ⟨a, c, e⟩
    have hsz5 := HG6.out.size
    by_cases h0 : D.length = 0
    · have hd : decide ((0 : Int) < (D.length : Int)) = false := decide_eq_false (by omega)
      have hd9 : decide (0 < D.length) = false := decide_eq_false (by omega)
      obtain ⟨x0, x1, x2⟩ := HX6.out
      obtain ⟨z0, z1, z2, y0, y1, y2⟩ := cells3 HR6.out
      have HKN : Hid (∀ W, OwnT W b0 wd.heap.size (.slice ad D.length cd) D → wd.heap.size ≤ W.heap.size → KeepN w.heap.size W (.slice ad D.length cd) D) := Lib.hid (fun W h hs => (keepN_own h hs (by omega) (fun m hm => by have := (HDM.out m hm).1; omega)).mono (by omega))
      have HH0 := Lib.hid h0
      clear h0
      go_wp2_with fail
      exact bodyPost_ret (v := .tuple #[.agg #[.int .i64 gr, .int .i64 gc, .string gs], .string f, .slice ad D.length cd]) (by simp [results, Tryz.results19, go_sem, z0, z1, z2]) rfl ⟨gr, gc, gs, f, _, D, HISG.out, hf36, hd72, fun m hm => ⟨by have := (HDM.out m hm).1; omega, fun z hz => by have := (HDM.out m hm).2 z hz; omega⟩, rfl, HKN.out _ (ownT_set (ownT_set (ownT_set HT.out (by omega) _ _) (by omega) _ _) (by omega) _ _) (by simp), cur_set (cur_set (cur_set HK5.out hwc (by omega) _ _) hwc (by omega) _ _) hwc (by omega) _ _, grown_new (grown_new (grown_new HG6.out (Nat.le_refl _) _ _) (Nat.le_refl _) _ _) (Nat.le_refl _) _ _⟩
    · have hd : decide ((0 : Int) < (D.length : Int)) = true := decide_eq_true (by omega)
      go_wp2_with fail
      refine (below_any 8 (by decide) (by decide) B _ c n cap a0 HK5.out).mono ?_
      rintro e w6 ⟨v, ⟨xi, hx0, hx1, rfl⟩, rfl, hk6, hg6⟩
      have hcb : c < b0 := by omega
      have HG7 := Lib.hid (gtrans HG6.out hg6)
      have HB6 : Hid (∀ q, q < wd.heap.size → q ≠ c → w6.heap[q]? = wd.heap[q]?) := Lib.hid (fun q h1 h2 => hg6.block q h1 (by simp; omega))
      have hs6 := hg6.size
      have HR7 := Lib.hid ((HB6.out w.heap.size (size_of_heap HR6.out) hwc).trans HR6.out)
      have HX7 := Lib.hid ((HB6.out w1.heap.size (size_of_heap HXB.out) h1c).trans HXB.out)
      have HK7 := Lib.hid hk6
      have h0l : 0 < D.length := by omega
      obtain ⟨us, hn⟩ := HT.out
      obtain ⟨g, eg, -, -, -, -⟩ := hn.cell (j := 0) h0l
      have HN6 := Lib.hid (hn.kept (W' := w6) fun q h1 h2 => HB6.out q h2 (by omega))
      subst eg
      have hgb : b0 ≤ g ∧ g < wd.heap.size := hn.low g rfl
      have hdc : D.length ≤ cd := by
        rcases hn.row.2 with ⟨h', -⟩ | ⟨g', cap', cur, h', -, -, h9, -⟩
        · cases h'
        · injection h' with _ _ h'
          omega
      have HKN : Hid (∀ (W : World) (D' : List (List ByteArray)) (T : Nat), T ≤ W.heap.size → D'.length ≤ 72 → (∀ m ∈ D', m.length ≤ 36) → OwnT W b0 T (.slice (some ⟨g, 0, none⟩) D.length cd) D' → KeepN b0 W (.slice (some ⟨g, 0, none⟩) D.length cd) D') := Lib.hid (fun W D' T hT h72 h36 h => keepN_own h hT (by omega) (fun m hm => by have := h36 m hm; omega))
      have HK6 := HK7
      have HG6x := HG7
      clear hk6 hg6 hn HT HK5 HX6
      obtain ⟨x0, x1, x2, fx0, fx1, fx2⟩ := cells3 HX7.out
      obtain ⟨z0, z1, z2, y0, y1, y2⟩ := cells3 HR7.out
      obtain ⟨i, rfl⟩ : ∃ i : Nat, xi = (i : Int) := ⟨xi.toNat, by omega⟩
      have hd1 : (1 : Int) ≤ (D.length : Int) := by omega
      have hd2 : (D.length : Int) ≤ (cd : Int) := by omega
      rcases i with _ | _ | _ | i
      · have HOT : Hid (OwnT w6 b0 wd.heap.size (.slice (some ⟨g, 0, none⟩) D.length cd) D) := Lib.hid ⟨us, HN6.out⟩
        obtain ⟨m0, D1, hDc⟩ : ∃ m0 D1, D = m0 :: D1 := by
          cases D with
          | nil => exact absurd h0l (by simp)
          | cons m0 D1 => exact ⟨m0, D1, rfl⟩
        have HDC := Lib.hid hDc
        have hD1 : D1.length = D.length - 1 := by rw [hDc]; simp
        have HD1M : Hid (∀ m ∈ D1, m ∈ D) := Lib.hid (fun m hm => by rw [HDC.out]; exact List.mem_cons_of_mem _ hm)
        have HD1 := Lib.hid hD1
        have HKT : Hid (∀ W : World, wd.heap.size ≤ W.heap.size → OwnT W b0 wd.heap.size (.slice (some ⟨g, 0, none⟩) D.length cd) D → KeepN w.heap.size W (.slice (some ⟨g, 0, none⟩) D.length cd) D) := Lib.hid (fun W hT h => (HKN.out W D wd.heap.size hT hd72 (fun m hm => by have := (HDM.out m hm).1; omega) h).mono (by omega))
        clear hDc hD1
        by_cases hc1 : cd = 1
        · subst hc1
          have HL1 : Hid (D.length - 1 = 0 ∧ D1 = []) := Lib.hid ⟨by omega, List.length_eq_zero_iff.1 (by have := HD1.out; omega)⟩
          go_wp2_with fail
          exact bodyPost_ret (v := .tuple #[.agg #[.int .i64 gr, .int .i64 gc, .string gs], .string f, .slice (some ⟨g, 0, none⟩) 0 0]) (by simp [results, Tryz.results19, go_sem, z0, z1, z2]) rfl ⟨gr, gc, gs, f, _, [], HISG.out, hf36, by decide, (fun m hm => by cases hm), rfl, (fun W _ _ => reads_noneN _ W _ (by simp)), cur_set (cur_set (cur_set HK6.out hwc (by omega) _ _) hwc (by omega) _ _) hwc (by omega) _ _, grown_new (grown_new (grown_new HG7.out (Nat.le_refl _) _ _) (Nat.le_refl _) _ _) (Nat.le_refl _) _ _⟩
        · have hc2 : ¬ (1 : Int) = (cd : Int) := by omega
          have hc3 : ¬ (cd : Int) = 1 := by omega
          go_wp2_with fail
          exact bodyPost_ret (v := .tuple #[.agg #[.int .i64 gr, .int .i64 gc, .string gs], .string f, .slice (some ⟨g, 1, none⟩) (D.length - 1) (cd - 1)]) (by simp [results, Tryz.results19, go_sem, z0, z1, z2]) rfl ⟨gr, gc, gs, f, _, D1, HISG.out, hf36, by have := HD1.out; omega, fun m hm => ⟨by have := (HDM.out m (HD1M.out m hm)).1; omega, fun z hz => by have := (HDM.out m (HD1M.out m hm)).2 z hz; omega⟩, rfl, by rw [← HD1.out]; exact fun W h1 h2 => by have h9 := HKT.out _ (by simp; omega) (ownT_set (ownT_set (ownT_set HOT.out (by omega) _ _) (by omega) _ _) (by omega) _ _) W h1 h2; rw [HDC.out] at h9; exact reads_tailN h9, cur_set (cur_set (cur_set HK6.out hwc (by omega) _ _) hwc (by omega) _ _) hwc (by omega) _ _, grown_new (grown_new (grown_new HG7.out (Nat.le_refl _) _ _) (Nat.le_refl _) _ _) (Nat.le_refl _) _ _⟩
      · obtain ⟨aj, cj, eu⟩ := ownV_slice (HN6.out.inner 0 h0l)
        obtain ⟨i0, hi, hz0, hz1, hz2⟩ := info_parts infoStr
        have HMI : Hid (D.getD 0 [] ∈ D) := Lib.hid (by simp [List.getD, h0l])
        obtain ⟨M, hM⟩ : ∃ M, M = D.getD 0 [] := ⟨_, rfl⟩
        have HMM := Lib.hid hM
        rw [← hM] at eu HMI
        have HEU := Lib.hid eu
        have hml := (HDM.out M HMI.out).1
        have hq := HN6.out.spot h0l
        rw [eu] at hq
        have q6 : w6.drew.cell? ⟨g, 0, none⟩ = some (.slice aj M.length cj) := hq
        have HKD : Hid (Cur B w6.drew c n cap a0) := Lib.hid (cur_below HK6.out (Below.refl _ _).drew)
        have hgne : some g ≠ (Value.slice aj M.length cj).ownBlock := fun e => by have h9 := HN6.out.apart 0 h0l g rfl; rw [HEU.out] at h9; exact h9 e.symm
        have hdp : (0 : Int) < (D.length : Int) := by omega
        have hBb : B ≤ b0 := by omega
        clear hM eu hq x0 x1 x2 fx0 fx1 fx2 z0 z1 z2 y0 y1 y2
        go_upto_region 9 with (fail)
        refine wp_region_held_drew (S := (fun _ => True)) (by kernel_rfl) ?_ (fun hHeld => ?_)
        · (try trivial)
        refine wpAnyH_take (i := 0) (v := ?_) rfl (by kernel_rfl) (by kernel_rfl) (by kernel_rfl) (fun _ _ _ h => h) (Or.inl ⟨by rfl, ?_⟩) (by assumption) ?_
        rotate_left
        · intro w9 hSw
          try dsimp only at hSw
          go_simp
          all_goals with_reducible rfl
        try simp only [Act.put, List.setIfInBounds_toArray]
        refine wpAnyH_take (i := 1) (v := ?_) rfl (by kernel_rfl) (by kernel_rfl) (by kernel_rfl) (fun _ _ _ h => h) (Or.inl ⟨by rfl, ?_⟩) (by assumption) ?_
        rotate_left
        · intro w9 hSw
          try dsimp only at hSw
          go_simp
          all_goals with_reducible rfl
        try simp only [Act.put]
        refine wpAnyH_take (i := 2) (v := ?_) rfl (by kernel_rfl) (by kernel_rfl) (by kernel_rfl) (fun _ _ _ h => h) (Or.inl ⟨by rfl, ?_⟩) (by assumption) ?_
        rotate_left
        · intro w9 hSw
          try dsimp only at hSw
          go_simp
          all_goals with_reducible rfl
        try simp only [Act.put]
        refine wpAnyH_take (i := 4) (v := ?_) rfl (by kernel_rfl) (by kernel_rfl) (by kernel_rfl) (fun _ _ _ h => h) (Or.inl ⟨by rfl, ?_⟩) (by assumption) ?_
        rotate_left
        · intro w9 hSw
          try dsimp only at hSw
          go_simp
          all_goals with_reducible rfl
        try simp only [Act.put]
        refine wpAnyH_ready (rs := [3, 5]) (by kernel_rfl) (by simp) ?_
        refine AllReadyH.cons rfl (fun K hK => ?_) ?_
        · go_simp
          refine hK.out _ _ ?_ (fun hHeld2 => ?_)
          · (try dsimp only)
            (try trivial)
          clear hK K hHeld
          have hHeld := hHeld2
          clear hHeld2
          refine wpAnyH_ready (rs := [5]) (by kernel_rfl) (by simp) ?_
          refine AllReadyH.cons rfl (fun K hK => ?_) ?_
          · go_simp
            go_at_call 40
            refine Calls.mono (a4_any B _ c n cap a0 HKD.out) ?_
            rintro e w8 ⟨v8, ⟨x, hx10, rfl⟩, rfl, hk8, hg8⟩
            have HK8 := Lib.hid hk8
            have HG8 : Hid (w6.grownBy w8 (some c)) := Lib.hid ⟨hg8.os, hg8.tape, hg8.output, hg8.size, hg8.block⟩
            have HN8 := Lib.hid ((HN6.out.kept fun q h1 h2 => HG8.out.block q (by omega) (by simp; omega)).full)
            have q8 := HN8.out.spot h0l
            rw [HEU.out] at q8
            have q9 : (w8.alloc (.cells #[.string x] 9)).cell? ⟨g, 0, none⟩ = some (.slice aj M.length cj) := (World.grownBy_alloc w8 _ none).cell q8 (by simp)
            have HRW := Lib.hid (HN8.out.inner 0 h0l)
            rw [HEU.out, ← HMM.out, flat_strs] at HRW
            have hs8 := HG8.out.size
            have HX10 := Lib.hid hx10
            clear hk8 hg8 hx10
            (try go_wp2_with fail)
            refine hK.out _ _ ?_ (fun hHeld2 => ?_)
            · (try dsimp only)
              (try trivial)
            clear hK K hHeld
            have hHeld := hHeld2
            clear hHeld2
            refine wpAnyH_ready (rs := [6]) (by kernel_rfl) (by simp) ?_
            refine AllReadyH.cons rfl (fun K hK => ?_) ?_
            · go_simp
              refine hK.out _ _ ?_ (fun hHeld2 => ?_)
              · (try dsimp only)
                (try trivial)
              clear hK K hHeld
              have hHeld := hHeld2
              clear hHeld2
              refine wpAnyH_ready (rs := [7]) (by kernel_rfl) (by simp) ?_
              refine AllReadyH.cons rfl (fun K hK => ?_) ?_
              · refine step_appendW rfl (.tmp 32) (.tmp 35) 34 rfl b0 9 i0 (.string ⟨#[]⟩) 1 16 Tryz.underlying34 hi hz0 hz1 hz2 rfl (by decide) (.slice aj M.length cj) M.length (M.map Value.string) rfl (HRW.out.alloc _) ⟨w8.heap.size, 0, none⟩ 1 1 [.string x] rfl rfl (by decide) (by simp [Value.oneCell']) (one_srcD w8 _ _) (by omega) (by omega) (le_alloc (by omega) _) ?_
                intro v10 w10 hown hgrow hwhere
                obtain ⟨a10, c10, rfl⟩ := ownV_slice hown
                have HO10 := Lib.hid hown
                have HG10 := Lib.hid hgrow
                have HW10 := Lib.hid hwhere
                have l10 : w10.frozen? ⟨g, 0, none⟩ = false := (World.frozen?_of_block (a := ⟨g, 0, none⟩) (hgrow.block g (by have := World.block_lt_of_cell? _ _ q9; exact this) hgne)).trans ((World.frozen?_of_block (a := ⟨g, 0, none⟩) (Below.heap_alloc w8 (.cells #[.string x] 9) g (World.block_lt_of_cell? _ _ q8))).trans (HN8.out.soft 0))
                have k10 := hgrow.cell q9 hgne
                clear hown hgrow hwhere
                refine hK.out _ _ ?_ (fun hHeld2 => ?_)
                · (try dsimp only)
                  (try trivial)
                clear hK K hHeld
                have hHeld := hHeld2
                clear hHeld2
                refine wpAnyH_take (i := 8) (v := ?_) rfl (by kernel_rfl) (by kernel_rfl) (by kernel_rfl) (fun _ _ _ h => h) (Or.inl ⟨by rfl, ?_⟩) (by assumption) ?_
                rotate_left
                · intro w9 hSw
                  try dsimp only at hSw
                  go_simp
                  all_goals with_reducible rfl
                try simp only [Act.put, List.setIfInBounds_toArray]
                refine wpAnyH_ready (rs := [9]) (by kernel_rfl) (by simp) ?_
                refine AllReadyH.cons rfl (fun K hK => ?_) ?_
                · go_simp
                  refine hK.out _ _ ?_ (fun hHeld2 => ?_)
                  · (try dsimp only)
                    (try trivial)
                  clear hK K hHeld
                  have hHeld := hHeld2
                  clear hHeld2
                  refine wpAnyH_done (by kernel_rfl) ?_ _
                  have HNZ := Lib.hid (HN8.out.appendAt (j := 0) (v' := .slice a10 (M.length + 1) c10) (m := M ++ [x]) h0l ((Below.refl _ _).alloc (Nat.le_refl _) (.cells #[.string x] 9)) (by rw [List.length_append, flat_strs, List.map_append]; exact HO10.out) (by rw [HEU.out]; exact HG10.out) (by rw [HEU.out]; exact HW10.out))
                  have hrl := HRW.out.lt
                  have HDZ : Hid ((D.set 0 (M ++ [x])).length = D.length ∧ ∀ m ∈ D.set 0 (M ++ [x]), m.length ≤ 36 ∧ ∀ z ∈ m, z.size ≤ 10) := Lib.hid ⟨by rw [List.length_set], fun m hm => by
                    rcases List.mem_or_eq_of_mem_set hm with h | h
                    · have := HDM.out m h
                      exact ⟨by omega, fun z hz => by have := this.2 z hz; omega⟩
                    · subst h
                      have := HDM.out M HMI.out
                      refine ⟨by rw [List.length_append, List.length_singleton]; omega, fun z hz => ?_⟩
                      rcases List.mem_append.1 hz with h | h
                      · have := this.2 z h; omega
                      · rw [List.mem_singleton.1 h]; exact HX10.out⟩
                  have HKZ := Lib.hid (cur_set ((HK8.out.alloc (.cells #[.string x] 9)).kept_own HG10.out (HRW.out.alloc _) (by omega) (by omega)) (show g ≠ c by omega) (show B ≤ g by omega) 0 (.slice a10 (M.length + 1) c10))
                  have HGZ := Lib.hid (grown_new (grown_own (gtrans (gtrans HG7.out HG8.out) (World.grownBy_alloc w8 (.cells #[.string x] 9) _)) HG10.out (HRW.out.alloc _) (show w.heap.size ≤ b0 by omega)) (show w.heap.size ≤ g by omega) 0 (.slice a10 (M.length + 1) c10))
                  have HBZ : Hid (∀ q, q < b0 → q ≠ c → (w10.setCell ⟨g, 0, none⟩ (.slice a10 (M.length + 1) c10)).heap[q]? = w6.heap[q]?) := Lib.hid fun q h1 h2 =>
                    (heap_setCell_other w10 ⟨g, 0, none⟩ q _ (by show q ≠ g; omega)).trans ((HG10.out.block q (by have := le_alloc (Nat.le_refl w8.heap.size) (.cells #[.string x] 9); omega) (fun e => by have := (hrl q e.symm).1; omega)).trans ((Below.heap_alloc w8 (.cells #[.string x] 9) q (by omega)).trans (HG8.out.block q (by omega) (by simp; omega))))
                  obtain ⟨w11, hw11⟩ : ∃ w11, w11 = w10.setCell ⟨g, 0, none⟩ (.slice a10 (M.length + 1) c10) := ⟨_, rfl⟩
                  rw [← hw11] at HNZ HKZ HGZ HBZ ⊢
                  clear hw11 HG10 HO10 HW10 l10 k10 q8 q9
                  have HX8 := Lib.hid ((HBZ.out w1.heap.size (by omega) h1c).trans HX7.out)
                  have HR8 := Lib.hid ((HBZ.out w.heap.size (by omega) hwc).trans HR7.out)
                  obtain ⟨x0, x1, x2, fx0, fx1, fx2⟩ := cells3 HX8.out
                  obtain ⟨z0, z1, z2, y0, y1, y2⟩ := cells3 HR8.out
                  go_wp2_with fail
                  exact bodyPost_ret (v := .tuple #[.agg #[.int .i64 gr, .int .i64 gc, .string gs], .string f, .slice (some ⟨g, 0, none⟩) D.length cd]) (by simp [results, Tryz.results19, go_sem, z0, z1, z2]) rfl ⟨gr, gc, gs, f, _, D.set 0 (M ++ [x]), HISG.out, hf36, by have := HDZ.out.1; omega, HDZ.out.2, rfl, (HKN.out _ _ w11.heap.size (by simp) (by have := HDZ.out.1; omega) (fun m hm => (HDZ.out.2 m hm).1) (ownT_set (ownT_set (ownT_set ⟨_, HNZ.out⟩ (by omega) _ _) (by omega) _ _) (by omega) _ _)).mono (by omega), cur_set (cur_set (cur_set HKZ.out hwc (by omega) _ _) hwc (by omega) _ _) hwc (by omega) _ _, grown_new (grown_new (grown_new HGZ.out (Nat.le_refl _) _ _) (Nat.le_refl _) _ _) (Nat.le_refl _) _ _⟩
                exact AllReadyH.nil
              exact AllReadyH.nil
            exact AllReadyH.nil
          exact AllReadyH.nil
        refine AllReadyH.cons rfl (fun K hK => ?_) ?_
        · go_simp
          go_at_call 40
          refine Calls.mono (a4_any B _ c n cap a0 HKD.out) ?_
          rintro e w8 ⟨v8, ⟨x, hx10, rfl⟩, rfl, hk8, hg8⟩
          have HK8 := Lib.hid hk8
          have HG8 : Hid (w6.grownBy w8 (some c)) := Lib.hid ⟨hg8.os, hg8.tape, hg8.output, hg8.size, hg8.block⟩
          have HN8 := Lib.hid ((HN6.out.kept fun q h1 h2 => HG8.out.block q (by omega) (by simp; omega)).full)
          have q8 := HN8.out.spot h0l
          rw [HEU.out] at q8
          have q9 : (w8.alloc (.cells #[.string x] 9)).cell? ⟨g, 0, none⟩ = some (.slice aj M.length cj) := (World.grownBy_alloc w8 _ none).cell q8 (by simp)
          have HRW := Lib.hid (HN8.out.inner 0 h0l)
          rw [HEU.out, ← HMM.out, flat_strs] at HRW
          have hs8 := HG8.out.size
          have HX10 := Lib.hid hx10
          clear hk8 hg8 hx10
          (try go_wp2_with fail)
          refine hK.out _ _ ?_ (fun hHeld2 => ?_)
          · (try dsimp only)
            (try trivial)
          clear hK K hHeld
          have hHeld := hHeld2
          clear hHeld2
          refine wpAnyH_ready (rs := [3, 6]) (by kernel_rfl) (by simp) ?_
          refine AllReadyH.cons rfl (fun K hK => ?_) ?_
          · go_simp
            refine hK.out _ _ ?_ (fun hHeld2 => ?_)
            · (try dsimp only)
              (try trivial)
            clear hK K hHeld
            have hHeld := hHeld2
            clear hHeld2
            refine wpAnyH_ready (rs := [6]) (by kernel_rfl) (by simp) ?_
            refine AllReadyH.cons rfl (fun K hK => ?_) ?_
            · go_simp
              refine hK.out _ _ ?_ (fun hHeld2 => ?_)
              · (try dsimp only)
                (try trivial)
              clear hK K hHeld
              have hHeld := hHeld2
              clear hHeld2
              refine wpAnyH_ready (rs := [7]) (by kernel_rfl) (by simp) ?_
              refine AllReadyH.cons rfl (fun K hK => ?_) ?_
              · refine step_appendW rfl (.tmp 32) (.tmp 35) 34 rfl b0 9 i0 (.string ⟨#[]⟩) 1 16 Tryz.underlying34 hi hz0 hz1 hz2 rfl (by decide) (.slice aj M.length cj) M.length (M.map Value.string) rfl (HRW.out.alloc _) ⟨w8.heap.size, 0, none⟩ 1 1 [.string x] rfl rfl (by decide) (by simp [Value.oneCell']) (one_srcD w8 _ _) (by omega) (by omega) (le_alloc (by omega) _) ?_
                intro v10 w10 hown hgrow hwhere
                obtain ⟨a10, c10, rfl⟩ := ownV_slice hown
                have HO10 := Lib.hid hown
                have HG10 := Lib.hid hgrow
                have HW10 := Lib.hid hwhere
                have l10 : w10.frozen? ⟨g, 0, none⟩ = false := (World.frozen?_of_block (a := ⟨g, 0, none⟩) (hgrow.block g (by have := World.block_lt_of_cell? _ _ q9; exact this) hgne)).trans ((World.frozen?_of_block (a := ⟨g, 0, none⟩) (Below.heap_alloc w8 (.cells #[.string x] 9) g (World.block_lt_of_cell? _ _ q8))).trans (HN8.out.soft 0))
                have k10 := hgrow.cell q9 hgne
                clear hown hgrow hwhere
                refine hK.out _ _ ?_ (fun hHeld2 => ?_)
                · (try dsimp only)
                  (try trivial)
                clear hK K hHeld
                have hHeld := hHeld2
                clear hHeld2
                refine wpAnyH_take (i := 8) (v := ?_) rfl (by kernel_rfl) (by kernel_rfl) (by kernel_rfl) (fun _ _ _ h => h) (Or.inl ⟨by rfl, ?_⟩) (by assumption) ?_
                rotate_left
                · intro w9 hSw
                  try dsimp only at hSw
                  go_simp
                  all_goals with_reducible rfl
                try simp only [Act.put, List.setIfInBounds_toArray]
                refine wpAnyH_ready (rs := [9]) (by kernel_rfl) (by simp) ?_
                refine AllReadyH.cons rfl (fun K hK => ?_) ?_
                · go_simp
                  refine hK.out _ _ ?_ (fun hHeld2 => ?_)
                  · (try dsimp only)
                    (try trivial)
                  clear hK K hHeld
                  have hHeld := hHeld2
                  clear hHeld2
                  refine wpAnyH_done (by kernel_rfl) ?_ _
                  have HNZ := Lib.hid (HN8.out.appendAt (j := 0) (v' := .slice a10 (M.length + 1) c10) (m := M ++ [x]) h0l ((Below.refl _ _).alloc (Nat.le_refl _) (.cells #[.string x] 9)) (by rw [List.length_append, flat_strs, List.map_append]; exact HO10.out) (by rw [HEU.out]; exact HG10.out) (by rw [HEU.out]; exact HW10.out))
                  have hrl := HRW.out.lt
                  have HDZ : Hid ((D.set 0 (M ++ [x])).length = D.length ∧ ∀ m ∈ D.set 0 (M ++ [x]), m.length ≤ 36 ∧ ∀ z ∈ m, z.size ≤ 10) := Lib.hid ⟨by rw [List.length_set], fun m hm => by
                    rcases List.mem_or_eq_of_mem_set hm with h | h
                    · have := HDM.out m h
                      exact ⟨by omega, fun z hz => by have := this.2 z hz; omega⟩
                    · subst h
                      have := HDM.out M HMI.out
                      refine ⟨by rw [List.length_append, List.length_singleton]; omega, fun z hz => ?_⟩
                      rcases List.mem_append.1 hz with h | h
                      · have := this.2 z h; omega
                      · rw [List.mem_singleton.1 h]; exact HX10.out⟩
                  have HKZ := Lib.hid (cur_set ((HK8.out.alloc (.cells #[.string x] 9)).kept_own HG10.out (HRW.out.alloc _) (by omega) (by omega)) (show g ≠ c by omega) (show B ≤ g by omega) 0 (.slice a10 (M.length + 1) c10))
                  have HGZ := Lib.hid (grown_new (grown_own (gtrans (gtrans HG7.out HG8.out) (World.grownBy_alloc w8 (.cells #[.string x] 9) _)) HG10.out (HRW.out.alloc _) (show w.heap.size ≤ b0 by omega)) (show w.heap.size ≤ g by omega) 0 (.slice a10 (M.length + 1) c10))
                  have HBZ : Hid (∀ q, q < b0 → q ≠ c → (w10.setCell ⟨g, 0, none⟩ (.slice a10 (M.length + 1) c10)).heap[q]? = w6.heap[q]?) := Lib.hid fun q h1 h2 =>
                    (heap_setCell_other w10 ⟨g, 0, none⟩ q _ (by show q ≠ g; omega)).trans ((HG10.out.block q (by have := le_alloc (Nat.le_refl w8.heap.size) (.cells #[.string x] 9); omega) (fun e => by have := (hrl q e.symm).1; omega)).trans ((Below.heap_alloc w8 (.cells #[.string x] 9) q (by omega)).trans (HG8.out.block q (by omega) (by simp; omega))))
                  obtain ⟨w11, hw11⟩ : ∃ w11, w11 = w10.setCell ⟨g, 0, none⟩ (.slice a10 (M.length + 1) c10) := ⟨_, rfl⟩
                  rw [← hw11] at HNZ HKZ HGZ HBZ ⊢
                  clear hw11 HG10 HO10 HW10 l10 k10 q8 q9
                  have HX8 := Lib.hid ((HBZ.out w1.heap.size (by omega) h1c).trans HX7.out)
                  have HR8 := Lib.hid ((HBZ.out w.heap.size (by omega) hwc).trans HR7.out)
                  obtain ⟨x0, x1, x2, fx0, fx1, fx2⟩ := cells3 HX8.out
                  obtain ⟨z0, z1, z2, y0, y1, y2⟩ := cells3 HR8.out
                  go_wp2_with fail
                  exact bodyPost_ret (v := .tuple #[.agg #[.int .i64 gr, .int .i64 gc, .string gs], .string f, .slice (some ⟨g, 0, none⟩) D.length cd]) (by simp [results, Tryz.results19, go_sem, z0, z1, z2]) rfl ⟨gr, gc, gs, f, _, D.set 0 (M ++ [x]), HISG.out, hf36, by have := HDZ.out.1; omega, HDZ.out.2, rfl, (HKN.out _ _ w11.heap.size (by simp) (by have := HDZ.out.1; omega) (fun m hm => (HDZ.out.2 m hm).1) (ownT_set (ownT_set (ownT_set ⟨_, HNZ.out⟩ (by omega) _ _) (by omega) _ _) (by omega) _ _)).mono (by omega), cur_set (cur_set (cur_set HKZ.out hwc (by omega) _ _) hwc (by omega) _ _) hwc (by omega) _ _, grown_new (grown_new (grown_new HGZ.out (Nat.le_refl _) _ _) (Nat.le_refl _) _ _) (Nat.le_refl _) _ _⟩
                exact AllReadyH.nil
              exact AllReadyH.nil
            exact AllReadyH.nil
          refine AllReadyH.cons rfl (fun K hK => ?_) ?_
          · go_simp
            refine hK.out _ _ ?_ (fun hHeld2 => ?_)
            · (try dsimp only)
              (try trivial)
            clear hK K hHeld
            have hHeld := hHeld2
            clear hHeld2
            refine wpAnyH_ready (rs := [3]) (by kernel_rfl) (by simp) ?_
            refine AllReadyH.cons rfl (fun K hK => ?_) ?_
            · go_simp
              refine hK.out _ _ ?_ (fun hHeld2 => ?_)
              · (try dsimp only)
                (try trivial)
              clear hK K hHeld
              have hHeld := hHeld2
              clear hHeld2
              refine wpAnyH_ready (rs := [7]) (by kernel_rfl) (by simp) ?_
              refine AllReadyH.cons rfl (fun K hK => ?_) ?_
              · refine step_appendW rfl (.tmp 32) (.tmp 35) 34 rfl b0 9 i0 (.string ⟨#[]⟩) 1 16 Tryz.underlying34 hi hz0 hz1 hz2 rfl (by decide) (.slice aj M.length cj) M.length (M.map Value.string) rfl (HRW.out.alloc _) ⟨w8.heap.size, 0, none⟩ 1 1 [.string x] rfl rfl (by decide) (by simp [Value.oneCell']) (one_srcD w8 _ _) (by omega) (by omega) (le_alloc (by omega) _) ?_
                intro v10 w10 hown hgrow hwhere
                obtain ⟨a10, c10, rfl⟩ := ownV_slice hown
                have HO10 := Lib.hid hown
                have HG10 := Lib.hid hgrow
                have HW10 := Lib.hid hwhere
                have l10 : w10.frozen? ⟨g, 0, none⟩ = false := (World.frozen?_of_block (a := ⟨g, 0, none⟩) (hgrow.block g (by have := World.block_lt_of_cell? _ _ q9; exact this) hgne)).trans ((World.frozen?_of_block (a := ⟨g, 0, none⟩) (Below.heap_alloc w8 (.cells #[.string x] 9) g (World.block_lt_of_cell? _ _ q8))).trans (HN8.out.soft 0))
                have k10 := hgrow.cell q9 hgne
                clear hown hgrow hwhere
                refine hK.out _ _ ?_ (fun hHeld2 => ?_)
                · (try dsimp only)
                  (try trivial)
                clear hK K hHeld
                have hHeld := hHeld2
                clear hHeld2
                refine wpAnyH_take (i := 8) (v := ?_) rfl (by kernel_rfl) (by kernel_rfl) (by kernel_rfl) (fun _ _ _ h => h) (Or.inl ⟨by rfl, ?_⟩) (by assumption) ?_
                rotate_left
                · intro w9 hSw
                  try dsimp only at hSw
                  go_simp
                  all_goals with_reducible rfl
                try simp only [Act.put, List.setIfInBounds_toArray]
                refine wpAnyH_ready (rs := [9]) (by kernel_rfl) (by simp) ?_
                refine AllReadyH.cons rfl (fun K hK => ?_) ?_
                · go_simp
                  refine hK.out _ _ ?_ (fun hHeld2 => ?_)
                  · (try dsimp only)
                    (try trivial)
                  clear hK K hHeld
                  have hHeld := hHeld2
                  clear hHeld2
                  refine wpAnyH_done (by kernel_rfl) ?_ _
                  have HNZ := Lib.hid (HN8.out.appendAt (j := 0) (v' := .slice a10 (M.length + 1) c10) (m := M ++ [x]) h0l ((Below.refl _ _).alloc (Nat.le_refl _) (.cells #[.string x] 9)) (by rw [List.length_append, flat_strs, List.map_append]; exact HO10.out) (by rw [HEU.out]; exact HG10.out) (by rw [HEU.out]; exact HW10.out))
                  have hrl := HRW.out.lt
                  have HDZ : Hid ((D.set 0 (M ++ [x])).length = D.length ∧ ∀ m ∈ D.set 0 (M ++ [x]), m.length ≤ 36 ∧ ∀ z ∈ m, z.size ≤ 10) := Lib.hid ⟨by rw [List.length_set], fun m hm => by
                    rcases List.mem_or_eq_of_mem_set hm with h | h
                    · have := HDM.out m h
                      exact ⟨by omega, fun z hz => by have := this.2 z hz; omega⟩
                    · subst h
                      have := HDM.out M HMI.out
                      refine ⟨by rw [List.length_append, List.length_singleton]; omega, fun z hz => ?_⟩
                      rcases List.mem_append.1 hz with h | h
                      · have := this.2 z h; omega
                      · rw [List.mem_singleton.1 h]; exact HX10.out⟩
                  have HKZ := Lib.hid (cur_set ((HK8.out.alloc (.cells #[.string x] 9)).kept_own HG10.out (HRW.out.alloc _) (by omega) (by omega)) (show g ≠ c by omega) (show B ≤ g by omega) 0 (.slice a10 (M.length + 1) c10))
                  have HGZ := Lib.hid (grown_new (grown_own (gtrans (gtrans HG7.out HG8.out) (World.grownBy_alloc w8 (.cells #[.string x] 9) _)) HG10.out (HRW.out.alloc _) (show w.heap.size ≤ b0 by omega)) (show w.heap.size ≤ g by omega) 0 (.slice a10 (M.length + 1) c10))
                  have HBZ : Hid (∀ q, q < b0 → q ≠ c → (w10.setCell ⟨g, 0, none⟩ (.slice a10 (M.length + 1) c10)).heap[q]? = w6.heap[q]?) := Lib.hid fun q h1 h2 =>
                    (heap_setCell_other w10 ⟨g, 0, none⟩ q _ (by show q ≠ g; omega)).trans ((HG10.out.block q (by have := le_alloc (Nat.le_refl w8.heap.size) (.cells #[.string x] 9); omega) (fun e => by have := (hrl q e.symm).1; omega)).trans ((Below.heap_alloc w8 (.cells #[.string x] 9) q (by omega)).trans (HG8.out.block q (by omega) (by simp; omega))))
                  obtain ⟨w11, hw11⟩ : ∃ w11, w11 = w10.setCell ⟨g, 0, none⟩ (.slice a10 (M.length + 1) c10) := ⟨_, rfl⟩
                  rw [← hw11] at HNZ HKZ HGZ HBZ ⊢
                  clear hw11 HG10 HO10 HW10 l10 k10 q8 q9
                  have HX8 := Lib.hid ((HBZ.out w1.heap.size (by omega) h1c).trans HX7.out)
                  have HR8 := Lib.hid ((HBZ.out w.heap.size (by omega) hwc).trans HR7.out)
                  obtain ⟨x0, x1, x2, fx0, fx1, fx2⟩ := cells3 HX8.out
                  obtain ⟨z0, z1, z2, y0, y1, y2⟩ := cells3 HR8.out
                  go_wp2_with fail
                  exact bodyPost_ret (v := .tuple #[.agg #[.int .i64 gr, .int .i64 gc, .string gs], .string f, .slice (some ⟨g, 0, none⟩) D.length cd]) (by simp [results, Tryz.results19, go_sem, z0, z1, z2]) rfl ⟨gr, gc, gs, f, _, D.set 0 (M ++ [x]), HISG.out, hf36, by have := HDZ.out.1; omega, HDZ.out.2, rfl, (HKN.out _ _ w11.heap.size (by simp) (by have := HDZ.out.1; omega) (fun m hm => (HDZ.out.2 m hm).1) (ownT_set (ownT_set (ownT_set ⟨_, HNZ.out⟩ (by omega) _ _) (by omega) _ _) (by omega) _ _)).mono (by omega), cur_set (cur_set (cur_set HKZ.out hwc (by omega) _ _) hwc (by omega) _ _) hwc (by omega) _ _, grown_new (grown_new (grown_new HGZ.out (Nat.le_refl _) _ _) (Nat.le_refl _) _ _) (Nat.le_refl _) _ _⟩
                exact AllReadyH.nil
              exact AllReadyH.nil
            exact AllReadyH.nil
          exact AllReadyH.nil
        exact AllReadyH.nil
      · have hg1 : g ≠ w1.heap.size := by omega
        have hg2 : g ≠ w.heap.size := by omega
        have hgs := hgb.2
        have HN7 := Lib.hid (HN6.out.later hs6 ((Below.refl w6.heap.size w6).alloc (Nat.le_refl _) (.cells #[] 9)))
        have sp := HN7.out.spot h0l
        have sf := HN7.out.soft 0
        have HST := Lib.hid ((HN7.out.store (u := .slice (some ⟨w6.heap.size, 0, none⟩) 0 0) (m := []) h0l (own_fS (own_base (own_empty2 w6 9 1) (show b0 ≤ w6.heap.size by omega))) (.inr (fun k e => by have e9 : w6.heap.size = k := Option.some.inj e; omega))).1)
        have HBZ : Hid (∀ q, q < b0 → ((w6.alloc (.cells #[] 9)).setCell ⟨g, 0, none⟩ (.slice (some ⟨w6.heap.size, 0, none⟩) 0 0)).heap[q]? = w6.heap[q]?) := Lib.hid fun q h1 => (heap_setCell_other _ ⟨g, 0, none⟩ q _ (by show q ≠ g; omega)).trans (Below.heap_alloc w6 (.cells #[] 9) q (by omega))
        have HDZ : Hid ((D.set 0 []).length = D.length ∧ ∀ m ∈ D.set 0 [], m.length ≤ 36 ∧ ∀ z ∈ m, z.size ≤ 10) := Lib.hid ⟨by rw [List.length_set], fun m hm => by
          rcases List.mem_or_eq_of_mem_set hm with h | h
          · have := HDM.out m h
            exact ⟨by omega, fun z hz => by have := this.2 z hz; omega⟩
          · subst h
            exact ⟨by simp, fun z hz => by cases hz⟩⟩
        have HX8 := Lib.hid ((HBZ.out w1.heap.size (by omega)).trans HX7.out)
        have HR8 := Lib.hid ((HBZ.out w.heap.size (by omega)).trans HR7.out)
        have HKZ := Lib.hid (cur_set (HK6.out.alloc (.cells #[] 9)) (show g ≠ c by omega) (show B ≤ g by omega) 0 (.slice (some ⟨w6.heap.size, 0, none⟩) 0 0))
        have HGZ := Lib.hid (grown_new (gtrans HG7.out (World.grownBy_alloc w6 (.cells #[] 9) _)) (show w.heap.size ≤ g by omega) 0 (.slice (some ⟨w6.heap.size, 0, none⟩) 0 0))
        clear x0 x1 x2 fx0 fx1 fx2 z0 z1 z2 y0 y1 y2
        obtain ⟨x0, x1, x2, fx0, fx1, fx2⟩ := cells3 HX8.out
        obtain ⟨z0, z1, z2, y0, y1, y2⟩ := cells3 HR8.out
        have hdp : (0 : Int) < (D.length : Int) := by omega
        go_wp2_with fail
        exact bodyPost_ret (v := .tuple #[.agg #[.int .i64 gr, .int .i64 gc, .string gs], .string f, .slice (some ⟨g, 0, none⟩) D.length cd]) (by simp [results, Tryz.results19, go_sem, z0, z1, z2]) rfl ⟨gr, gc, gs, f, _, D.set 0 [], HISG.out, hf36, by have := HDZ.out.1; omega, HDZ.out.2, rfl, (HKN.out _ _ _ (by simp) (by have := HDZ.out.1; omega) (fun m hm => (HDZ.out.2 m hm).1) (ownT_set (ownT_set (ownT_set ⟨_, HST.out⟩ (by omega) _ _) (by omega) _ _) (by omega) _ _)).mono (by omega), cur_set (cur_set (cur_set HKZ.out hwc (by omega) _ _) hwc (by omega) _ _) hwc (by omega) _ _, grown_new (grown_new (grown_new HGZ.out (Nat.le_refl _) _ _) (Nat.le_refl _) _ _) (Nat.le_refl _) _ _⟩
      · have e0 : (((i + 3 : Nat) : Int) == 0) = false := by simp; omega
        have e1 : (((i + 3 : Nat) : Int) == 1) = false := by simp; omega
        have e2 : (((i + 3 : Nat) : Int) == 2) = false := by simp; omega
        obtain ⟨k, hk⟩ : ∃ k, k = i + 3 := ⟨_, rfl⟩
        rw [show i + 1 + 1 + 1 = k from hk.symm]
        rw [← hk] at e0 e1 e2
        clear hk
        go_wp2_with fail
        exact bodyPost_ret (v := .tuple #[.agg #[.int .i64 gr, .int .i64 gc, .string gs], .string f, .slice (some ⟨g, 0, none⟩) D.length cd]) (by simp [results, Tryz.results19, go_sem, z0, z1, z2]) rfl ⟨gr, gc, gs, f, _, D, HISG.out, hf36, hd72, fun m hm => ⟨by have := (HDM.out m hm).1; omega, fun z hz => by have := (HDM.out m hm).2 z hz; omega⟩, rfl, (HKN.out _ D wd.heap.size (by simp; omega) hd72 (fun m hm => by have := (HDM.out m hm).1; omega) (ownT_set (ownT_set (ownT_set ⟨us, HN6.out⟩ (by omega) _ _) (by omega) _ _) (by omega) _ _)).mono (by omega), cur_set (cur_set (cur_set HK6.out hwc (by omega) _ _) hwc (by omega) _ _) hwc (by omega) _ _, grown_new (grown_new (grown_new HG7.out (Nat.le_refl _) _ _) (Nat.le_refl _) _ _) (Nat.le_refl _) _ _⟩
end Go.Proofs.YtgjijmcedonlmaaGreatDoor
