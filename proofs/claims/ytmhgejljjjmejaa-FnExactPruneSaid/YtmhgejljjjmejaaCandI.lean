/-
  The program's candidates: demands, candidatesOf, Support.
-/
import Derived.Test.YtmhgejljjjmejaaDemI
import Derived.Test.YtmhgejljjjmejaaDomT
import Derived.Test.YtmhgejljjjmejaaCrossImplC
import Derived.Test.YtmhgejljjjmejaaSlotImplG
import Derived.Deep.RegionHeld3
import Derived.Deep.RegionLaw
namespace Go.Proofs.Ytmhgejljjjmejaa
open Go.RowKit

/-- The cells of a meeting. -/
def cM (m : Nat × Nat × Nat) : List Value := [.int .i64 (m.1 : Int), .int .i64 (m.2.1 : Int), .int .i64 (m.2.2 : Int)]
theorem cM_length (m : Nat × Nat × Nat) : (cM m).length = 3 := rfl
theorem cM_one (m : Nat × Nat × Nat) : ∀ u ∈ cM m, u.oneCell' = true := by
  intro u hu
  simp only [cM, List.mem_cons, List.not_mem_nil, or_false] at hu
  rcases hu with rfl | rfl | rfl <;> rfl
/-- A slice of slices, elements of s cells, that reads as a list of lists. -/
def ReadsL {α : Type} (f : α → List Value) (s : Nat) (B : Nat) (W : World) (v : Value) (L : List (List α)) : Prop :=
  ∃ us : List Value, ReadsV B W v 1 L.length us ∧ ∀ j, j < L.length → ReadsV B W (us.getD j undef) s (L.getD j []).length ((L.getD j []).flatMap f)
theorem ReadsL.now {α : Type} {f : α → List Value} {s : Nat} {W W' : World} {v : Value} {L : List (List α)} (h : ReadsL f s W.heap.size W v L) (hb : Below W.heap.size W W') : ReadsL f s W'.heap.size W' v L := by
  obtain ⟨us, h1, h2⟩ := h
  exact ⟨us, ReadsV.now h1 hb, fun j hj => ReadsV.now (h2 j hj) hb⟩
theorem ReadsL.cells {α : Type} {f : α → List Value} {s : Nat} {B : Nat} {W : World} {v : Value} {L : List (List α)} (h : ReadsL f s B W v L) :
    ∃ a0 cap, v = .slice a0 L.length cap ∧ ∀ j, j < L.length → ∃ b off u, a0 = some ⟨b, off, none⟩ ∧ b < B ∧ W.cell? ⟨b, off + j, none⟩ = some u ∧ ReadsV B W u s (L.getD j []).length ((L.getD j []).flatMap f) := by
  obtain ⟨us, ⟨h0, hx, a0, cap, rfl, hc, h⟩, hi⟩ := h
  refine ⟨a0, cap, rfl, fun j hj => ?_⟩
  obtain ⟨b, off, e1, e2, e3⟩ := h j (by omega)
  have hj' : j < us.length := by omega
  refine ⟨b, off, us.getD j undef, e1, e2, ?_, hi j hj⟩
  rw [e3]
  simp [List.getD, hj']
theorem readsL_own {α : Type} {f : α → List Value} {s : Nat} {eo ei : TypeId} {W : World} {base top : Nat} {v : Value} {us : List Value} {L : List (List α)} (h : OwnN f s eo ei W base top v us L) (hl : L.length ≤ 140737488355328) (hm : ∀ m ∈ L, m.length ≤ 140737488355328) : ReadsL f s W.heap.size W v L :=
  ⟨us, readsV_own h.row hl, fun j hj => readsV_own (h.inner j hj) (hm _ (by simp [List.getD, hj]))⟩
/-- The demands of some meetings. -/
def demsOf (D : List (List ByteArray)) (M : List (Nat × Nat × Nat)) : List DemV := M.map fun m => (m.1, lsS (D.getD m.2.1 []) (m.2.2 : Int))
theorem demsOf_snoc (D : List (List ByteArray)) (M : List (Nat × Nat × Nat)) (m : Nat × Nat × Nat) : demsOf D (M ++ [m]) = demsOf D M ++ [(m.1, lsS (D.getD m.2.1 []) (m.2.2 : Int))] := by simp [demsOf]
theorem demsOf_length (D : List (List ByteArray)) (M : List (Nat × Nat × Nat)) : (demsOf D M).length = M.length := by simp [demsOf]
theorem info_dem : (Try.prog.info? 116).map (fun i => (i.zero, i.size, i.bytes)) = some (some (.agg #[.int .i64 0, .int .u64 0]), 2, 16) := by kernel_rfl
theorem row3_cells {B : Nat} {W : World} {v : Value} {M : List (Nat × Nat × Nat)} (h : ReadsV B W v 3 M.length (M.flatMap cM)) :
    ∃ a0 cap, v = .slice a0 M.length cap ∧ ∀ k, k < M.length → ∃ b off, a0 = some ⟨b, off, none⟩ ∧ b < B ∧ W.cell? ⟨b, off + k * 3, none⟩ = some (.int .i64 ((M.getD k (0, 0, 0)).1 : Int)) ∧ W.cell? ⟨b, off + k * 3 + 1, none⟩ = some (.int .i64 ((M.getD k (0, 0, 0)).2.1 : Int)) ∧ W.cell? ⟨b, off + k * 3 + 2, none⟩ = some (.int .i64 ((M.getD k (0, 0, 0)).2.2 : Int)) := by
  obtain ⟨-, -, a0, cap, rfl, -, hc⟩ := h
  refine ⟨a0, cap, rfl, fun k hk => ?_⟩
  obtain ⟨b1, off, e1, hb1, q0⟩ := hc (k * 3 + 0) (by omega)
  obtain ⟨b2, off2, e2, hb2, q1⟩ := hc (k * 3 + 1) (by omega)
  obtain ⟨b3, off3, e3, hb3, q2⟩ := hc (k * 3 + 2) (by omega)
  subst e1
  injection e2 with e2
  injection e2 with e4 e5
  injection e3 with e3
  injection e3 with e6 e7
  subst e4 e5 e6 e7
  rw [row0_at cM 3 cM_length M k hk 0 (by decide)] at q0
  rw [row0_at cM 3 cM_length M k hk 1 (by decide)] at q1
  rw [row0_at cM 3 cM_length M k hk 2 (by decide)] at q2
  have hgd : M[k] = M.getD k (0, 0, 0) := by simp [List.getD, hk]
  rw [hgd] at q0 q1 q2
  exact ⟨b1, off, rfl, hb1, q0, q1, q2⟩
theorem cD_one1 (q : DemV) : ∀ u ∈ cD q, u.oneCell' = true := by
  intro u hu
  simp only [cD, List.mem_cons, List.not_mem_nil, or_false] at hu
  rcases hu with rfl | rfl <;> rfl
theorem oneD (w : World) (q : DemV) (t : TypeId) : ∀ j, j < 1 * 2 → ∃ b off, some (⟨w.heap.size, 0, none⟩ : Addr) = some ⟨b, off, none⟩ ∧ (w.alloc (.cells #[.int .i64 (q.1 : Int), .int .u64 (q.2 : Int)] t)).cell? ⟨b, off + j, none⟩ = (cD q)[j]? := fun j hj => by
  refine ⟨w.heap.size, 0, rfl, ?_⟩
  rw [Nat.zero_add]
  rcases j with _ | _ | j
  · simp [cD]
  · simp [cD]
  · omega
set_option maxRecDepth 100000 in
set_option maxHeartbeats 3200000 in
/-- demands. -/
theorem idem_any (sv : Value) (MM : List (List (Nat × Nat × Nat))) (D : List (List ByteArray)) (slot : Nat) (hslot : slot < MM.length) (hlen : (MM.getD slot []).length ≤ 16777216) (hin : ∀ m ∈ MM.getD slot [], m.2.1 < D.length)
    (hm : ∀ m ∈ D, m.length ≤ 1048576 ∧ ∀ z ∈ m, z.size ≤ 1048576) (hsv : ∃ a n c, sv = .slice a n c) (mv dv : Value) (w : World) (hmv : ReadsL cM 3 w.heap.size w mv MM) (hdv : ReadsN w.heap.size w dv D) :
    Calls Try.prog 47 #[.agg #[sv, mv, dv], .int .i64 slot] w fun e w' => ∃ v', e = .returned v' ∧ w'.ownsRow w.heap.size 116 2 v' (MM.getD slot []).length ((demsOf D (MM.getD slot [])).flatMap cD) ∧ Below w.heap.size w w' := by
  obtain ⟨i0, hi, hz0, hz1, hz2⟩ := info_parts info_dem
  obtain ⟨av, nv, cv, rfl⟩ := hsv
  obtain ⟨am, capm, rfl, hcm⟩ := hmv.cells
  obtain ⟨-, ad, capd, rfl, -, hcd⟩ := hdv.cells
  obtain ⟨bm, om, um, rfl, hbm, cm, hum⟩ := hcm slot hslot
  obtain ⟨M, hM⟩ : ∃ M, M = MM.getD slot [] := ⟨_, rfl⟩
  rw [← hM] at hlen hin hum ⊢
  obtain ⟨au, capu, rfl, hcu⟩ := row3_cells hum
  have HU := Lib.hid hcu
  have HCD := Lib.hid hcd
  have HIN := Lib.hid hin
  have HM := Lib.hid hm
  clear hM hcm hmv hdv hcd hcu hum hin hm
  go_enter Try.func47, Try.ntmps47
  go_wp2_with fail
  obtain ⟨W0, hW0⟩ : ∃ W0, W0 = w.alloc (.cells #[.slice av nv cv, .slice (some ⟨bm, om, none⟩) MM.length capm, .slice ad D.length capd] 49) := ⟨_, rfl⟩
  have hws : W0.heap.size = w.heap.size + 1 := by rw [hW0]; simp
  have HBX : Hid (Below w.heap.size w W0) := Lib.hid (by rw [hW0]; exact (Below.refl _ _).alloc (Nat.le_refl _) _)
  have HC2 : Hid (∀ W, Below W0.heap.size W0 W → W.cell? ⟨w.heap.size, 2, none⟩ = some (.slice ad D.length capd)) := Lib.hid (fun W h => (h.cell (p := ⟨w.heap.size, 2, none⟩) (by show w.heap.size < _; omega)).trans (by rw [hW0]; simp))
  rw [← hW0]
  clear hW0
  have HO0 : Hid ((W0.alloc (.cells #[] 116)).ownsRow W0.heap.size 116 2 (.slice (some ⟨w.heap.size + 1, 0, none⟩) 0 0) 0 []) := Lib.hid (by rw [← hws]; exact own_empty2 W0 _ 2)
  have HB0 := Lib.hid ((Below.refl W0.heap.size W0).alloc (Nat.le_refl _) (.cells #[] 116))
  go_loopw [5, 15] (fun o i wr => ∃ k : Nat, k ≤ M.length ∧ i = .int .i64 (k : Int) ∧ Hid (wr.ownsRow W0.heap.size 116 2 o k ((demsOf D (M.take k)).flatMap cD)) ∧ Hid (Below W0.heap.size W0 wr)) (fun _ i _ => M.length - (intOf i).toNat)
  case atStart => exact ⟨0, Nat.zero_le _, rfl, HO0, HB0⟩
  case round =>
    clear HO0 HB0
    obtain ⟨k, hk, rfl, HO, HB⟩ := hrel
    by_cases hlt : k < M.length
    · have hd : decide ((k : Int) < (M.length : Int)) = true := decide_eq_true (by omega)
      have HBW := Lib.hid (HBX.out.trans (HB.out.mono HBX.out.size))
      obtain ⟨bu, ou, rfl, hbu, q0, q1, q2⟩ := HU.out k hlt
      have q0 := (HBW.out.cell (p := ⟨bu, ou + k * 3, none⟩) hbu).trans q0
      have q1 := (HBW.out.cell (p := ⟨bu, ou + k * 3 + 1, none⟩) hbu).trans q1
      have q2 := (HBW.out.cell (p := ⟨bu, ou + k * 3 + 2, none⟩) hbu).trans q2
      have HT : Hid (demsOf D (M.take (k + 1)) = demsOf D (M.take k) ++ [((M.getD k (0, 0, 0)).1, lsS (D.getD (M.getD k (0, 0, 0)).2.1 []) ((M.getD k (0, 0, 0)).2.2 : Int))]) := Lib.hid (by rw [take_one_more (d := (0, 0, 0)) hlt, demsOf_snoc])
      have hmi := HIN.out (M.getD k (0, 0, 0)) (by simp [List.getD, hlt])
      obtain ⟨⟨at0, sl, at1⟩, hy⟩ : ∃ y, y = M.getD k (0, 0, 0) := ⟨_, rfl⟩
      rw [← hy] at q0 q1 q2 HT hmi
      simp only at q0 q1 q2 HT hmi
      obtain ⟨bd, od, ud, rfl, hbd, cd0, hud⟩ := HCD.out sl hmi
      have HMD := Lib.hid (HM.out (D.getD sl []) (by simp [List.getD, hmi]))
      have HLS : Hid (∀ W, Below wr.heap.size wr W → Calls Try.prog 64 #[ud, .int .i64 (at1 : Int)] W fun e w' => e = .returned (.int .u64 ((lsS (D.getD sl []) (at1 : Int) : Nat) : Int)) ∧ Below W.heap.size W w') := Lib.hid (fun W hW => (lset_any (D.getD sl []) at1 (by have := HMD.out.1; omega) ud W (ReadsV.now (ReadsV.now hud HBW.out) hW) HMD.out.2).mono fun _ _ h => ⟨h.1, by rw [← h.2]; exact Below.refl _ _⟩)
      obtain ⟨S, hS⟩ : ∃ S, S = lsS (D.getD sl []) (at1 : Int) := ⟨_, rfl⟩
      rw [← hS] at HLS HT
      obtain ⟨L, hL⟩ : ∃ L, L = demsOf D (M.take k) := ⟨_, rfl⟩
      have hLk : L.length = k := by rw [hL, demsOf_length, List.length_take]; omega
      rw [← hL] at HO HT
      clear hy hS hL hud
      obtain ⟨WA, hWA⟩ : ∃ WA, WA = wr.alloc (.cells #[.int .i64 at0, .int .i64 sl, .int .i64 at1] 66) := ⟨_, rfl⟩
      have HA : Hid (Below wr.heap.size wr WA) := Lib.hid (by rw [hWA]; exact (Below.refl _ _).alloc (Nat.le_refl _) _)
      have hwa : WA.heap.size = wr.heap.size + 1 := by rw [hWA]; simp
      have HS : Hid (∀ W, Below WA.heap.size WA W → ((W.cell? ⟨wr.heap.size, 0, none⟩ = some (.int .i64 (at0 : Int)) ∧ W.cell? ⟨wr.heap.size, 1, none⟩ = some (.int .i64 (sl : Int)) ∧ W.cell? ⟨wr.heap.size, 2, none⟩ = some (.int .i64 (at1 : Int))) ∧ W.cell? ⟨w.heap.size, 2, none⟩ = some (.slice (some ⟨bd, od, none⟩) D.length capd) ∧ W.cell? ⟨bd, od + sl, none⟩ = some ud)) := Lib.hid (fun W h => ⟨⟨(h.cell (p := ⟨wr.heap.size, 0, none⟩) (by show wr.heap.size < _; omega)).trans (by rw [hWA]; simp), (h.cell (p := ⟨wr.heap.size, 1, none⟩) (by show wr.heap.size < _; omega)).trans (by rw [hWA]; simp), (h.cell (p := ⟨wr.heap.size, 2, none⟩) (by show wr.heap.size < _; omega)).trans (by rw [hWA]; simp)⟩,
        HC2.out W (HB.out.trans (HA.out.trans (h.mono HA.out.size) |>.mono HB.out.size)), (((HBW.out.trans (HA.out.trans (h.mono HA.out.size) |>.mono HBW.out.size))).cell (p := ⟨bd, od + sl, none⟩) hbd).trans cd0⟩)
      have HOA := Lib.hid (ownV_later HO.out HA.out)
      have HNE := Lib.hid HO.out.lt
      have hne1 : some wr.heap.size ≠ u5.ownBlock := fun e => by have := HNE.out _ e.symm; omega
      have hne2 : some w.heap.size ≠ u5.ownBlock := fun e => by have := HNE.out _ e.symm; omega
      have hne3 : some bd ≠ u5.ownBlock := fun e => by have := HNE.out _ e.symm; omega
      go_wp2_with fail
      rw [← hWA]
      clear hWA
      have hbn : Below WA.heap.size WA WA := Below.refl _ _
      go_region_held3 (fun W => ((W.cell? ⟨wr.heap.size, 0, none⟩ = some (.int .i64 (at0 : Int)) ∧ W.cell? ⟨wr.heap.size, 1, none⟩ = some (.int .i64 (sl : Int)) ∧ W.cell? ⟨wr.heap.size, 2, none⟩ = some (.int .i64 (at1 : Int))) ∧ W.cell? ⟨w.heap.size, 2, none⟩ = some (.slice (some ⟨bd, od, none⟩) D.length capd) ∧ W.cell? ⟨bd, od + sl, none⟩ = some ud)) (first | exact HS.out _ hbn | exact HS.out _ hbn.drew | exact HS.out _ (hbn.alloc hbn.size _) | exact HS.out _ (hbn.alloc hbn.size _).drew | exact cS) (first | (go_at_call 64; refine Calls.mono (HLS.out _ (by first | exact HA.out.trans (hbn.mono HA.out.size) | exact HA.out.trans (hbn.drew.mono HA.out.size))) ?_; rintro e w3 ⟨rfl, b3⟩; have hbn : Below WA.heap.size WA w3 := (by first | exact hbn.trans (b3.mono hbn.size) | exact hbn.drew.trans (b3.mono hbn.size)); have HO3 := Lib.hid (ownV_later HOA.out hbn); have hz3 : W0.heap.size ≤ w3.heap.size := Nat.le_trans HB.out.size (Nat.le_trans HA.out.size hbn.size); clear b3) | (refine step_appendV rfl (.tmp 19) (.tmp 34) 79 rfl W0.heap.size 116 i0 (.agg #[.int .i64 0, .int .u64 0]) 2 16 Try.underlying79 hi hz0 hz1 hz2 rfl (by decide) _ _ _ rfl (HO3.out.alloc _).drew (some ⟨w3.heap.size, 0, none⟩) 1 1 (cD (at0, S)) rfl rfl (cD_one1 _) (fun e => by cases e) (oneD w3 (at0, S) _) (by omega) (by omega) (le_alloc hz3 _) ?_; intro v6 w6 hown hgrow; have hS3 := HS.out _ ((hbn.alloc hbn.size (.cells #[.int .i64 (at0 : Int), .int .u64 (S : Int)] 116)).drew); have cS := And.intro (And.intro (hgrow.cell hS3.1.1 hne1) (And.intro (hgrow.cell hS3.1.2.1 hne1) (hgrow.cell hS3.1.2.2 hne1))) (And.intro (hgrow.cell hS3.2.1 hne2) (hgrow.cell hS3.2.2 hne3)); clear hS3))
      have HB6 := Lib.hid ((((HB.out.trans (HA.out.mono HB.out.size)).trans (hbn.mono (Nat.le_trans HB.out.size HA.out.size))).alloc hz3 (.cells #[.int .i64 (at0 : Int), .int .u64 (S : Int)] 116)).grown hgrow (le_alloc hz3 _) (fun q h => (HNE.out q h).1))
      have HO6 : Hid (w6.ownsRow W0.heap.size 116 2 v6 (k + 1) ((demsOf D (M.take (k + 1))).flatMap cD)) := Lib.hid (by rw [HT.out, List.flatMap_append, List.flatMap_cons, List.flatMap_nil, List.append_nil]; exact hown)
      clear hown hgrow cS hbn HO3
      go_wp2_with fail
      go_roundw
      case rel => exact ⟨k + 1, by omega, by go_num, HO6, HB6⟩
      case measure => simp [intOf]; omega
    · have hd : decide ((k : Int) < (M.length : Int)) = false := decide_eq_false (by omega)
      obtain rfl : k = M.length := by omega
      have HF : Hid (wr.ownsRow w.heap.size 116 2 u5 M.length ((demsOf D M).flatMap cD)) := Lib.hid (by have h9 := HO.out; rw [List.take_length] at h9; exact own_base h9 (by omega))
      go_wp2
      go_ret
      exact ⟨_, rfl, HF.out, HBX.out.trans (HB.out.mono HBX.out.size)⟩
end Go.Proofs.Ytmhgejljjjmejaa
