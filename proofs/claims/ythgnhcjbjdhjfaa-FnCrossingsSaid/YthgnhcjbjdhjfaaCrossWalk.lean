/-
  The walk of the law FnCrossings, but for what is drawn.
-/
import Derived.Test.YthgnhcjbjdhjfaaCrossLaw
import Derived.Test.YthgnhcjbjdhjfaaCrossImplF
import Derived.Test.YthgnhcjbjdhjfaaPopN
import Derived.Test.YthgnhcjbjdhjfaaUnchImpl
import Derived.Test.YthgnhcjbjdhjfaaDrawGrid3
import Derived.Test.YthgnhcjbjdhjfaaSame
import Derived.Deep.RegionWith
import Derived.Deep.RegionHeld3
import Derived.Deep.DeepCutAuto
import Derived.Deep.CutRange
import Derived.BigQuiet
import Derived.Deep.RegionLaw
namespace Go.Proofs.Ythgnhcjbjdhjfaa
open Go.RowKit

theorem cells3x {W : World} {b : Nat} {r c : Int} {s : ByteArray} {t : TypeId} (h : W.heap[b]? = some (.cells #[.int .i64 r, .int .i64 c, .string s] t)) : W.cell? ⟨b, 0, none⟩ = some (.int .i64 r) ∧ W.cell? ⟨b, 1, none⟩ = some (.int .i64 c) ∧ W.cell? ⟨b, 2, none⟩ = some (.string s) :=
  ⟨Joins.cell_of_block h 0, Joins.cell_of_block h 1, Joins.cell_of_block h 2⟩
set_option maxHeartbeats 800000 in
theorem lcon_any (l : List Int) (x : Int) (hl : l.length ≤ 16777216) (v : Value) (w : World) (hv : Reads w.heap.size w v .i64 l) :
    Calls Try.prog 14 #[v, .int .i64 x] w fun e w' => e = .returned (.bool (hasI l x)) ∧ Below w.heap.size w w' := by
  obtain ⟨-, a0, cap, rfl, -, hc⟩ := hv
  have HC := Lib.hid hc
  clear hc
  go_enter Try.func14, Try.ntmps14
  go_wp2
  go_loopw [5] (fun i wr => ∃ k : Nat, k ≤ l.length ∧ i = .int .i64 k ∧ Hid (∀ y ∈ l.take k, y ≠ x) ∧ Below w.heap.size w wr) (fun i _ => l.length - (intOf i).toNat)
  case atStart => exact ⟨0, Nat.zero_le _, rfl, Lib.hid (by simp), Below.refl _ _⟩
  case round =>
    obtain ⟨k, hk, rfl, HN, hbl⟩ := hrel
    by_cases hlt : k < l.length
    · obtain ⟨b, off, rfl, hb, q0⟩ := HC.out k hlt
      have HT : Hid (l.take (k + 1) = l.take k ++ [l.getD k 0]) := Lib.hid (by rw [List.take_succ_eq_append_getElem hlt, List.getD_eq_getElem?_getD, List.getElem?_eq_getElem hlt]; rfl)
      have HM : Hid (l.getD k 0 ∈ l) := Lib.hid (by rw [List.getD_eq_getElem?_getD, List.getElem?_eq_getElem hlt]; exact List.getElem_mem hlt)
      obtain ⟨z, hz⟩ : ∃ z, z = l.getD k 0 := ⟨_, rfl⟩
      rw [← hz] at q0 HT HM
      have c0 := (hbl.cell (p := ⟨b, off + k, none⟩) hb).trans q0
      clear q0 hz
      by_cases he : z = x
      · subst he
        have HF : Hid (hasI l z = true) := Lib.hid (hasI_iff.2 HM.out)
        go_wp2
        go_ret
        exact ⟨by rw [HF.out]; rfl, hbl⟩
      · have hne : (z == x) = false := by simpa using he
        have HN2 : Hid (∀ y ∈ l.take (k + 1), y ≠ x) := Lib.hid (fun y hy => by
          rw [HT.out] at hy
          rcases List.mem_append.1 hy with h | h
          · exact HN.out y h
          · simp only [List.mem_singleton] at h; subst h; exact he)
        clear he
        go_wp2
        go_roundw
        case rel => exact ⟨k + 1, by omega, by go_num, HN2, hbl⟩
        case measure => simp [intOf]; omega
    · have HF : Hid (hasI l x = false) := Lib.hid (by
        rcases hb : hasI l x with _ | _
        · rfl
        · have h9 := hasI_iff.1 hb
          have h8 := HN.out
          rw [List.take_of_length_le (by omega)] at h8
          exact absurd rfl (h8 x h9))
      go_wp2
      go_ret
      exact ⟨by rw [HF.out]; rfl, hbl⟩
set_option maxRecDepth 100000 in
set_option maxHeartbeats 16000000 in
theorem crossings_walk (n cap : Nat) (a0 : Option Addr) (w : World)
    (hbig : ∀ w, Calls Try.prog 8 #[.slice a0 n cap] w fun e w' => e = .returned (.bool false) ∧ w = w')
    (hD : Calls Try.prog 9 #[.slice a0 n cap] w fun e w' => ∃ (r c : Int) (s : ByteArray), s.size ≤ 40 ∧ e = .returned (.agg #[.int .i64 r, .int .i64 c, .string s]) ∧ Below w.heap.size w w') :
    Calls Try.prog 3 #[.slice a0 n cap] w fun e w' => e = .returned (.bool true) ∧ Below w.heap.size w w' := by
  go_enter Try.func3, Try.ntmps3
  go_wp2_with (first | (go_at_call 8; refine (hbig _).mono ?_; rintro e w0 ⟨rfl, rfl⟩) | (go_at_call 9; refine hD.mono ?_; rintro e w1 ⟨r, c, s, hs, rfl, b1⟩; have HB1 := Lib.hid b1; clear b1 hD hbig) | (go_at_call 10; refine (islo_any r c s (by omega) _).mono ?_; rintro e w2 ⟨v2, rfl, o2, b2⟩; obtain ⟨sa, scap, rfl⟩ := ownV_slice o2; have HB2 := Lib.hid ((HB1.out.alloc HB1.out.size _).trans (b2.mono (HB1.out.alloc HB1.out.size _).size)); have HG2 := Lib.hid ((b2.block w1.heap.size (by simp)).trans (new_block w1 _)); have HL2 := Lib.hid o2; obtain ⟨g0, g1, g2⟩ := cells3x HG2.out; clear o2 b2) | (go_at_call 11; refine (icr_any r c s (by omega) _).mono ?_; rintro e w3 ⟨v3, rfl, o3, b3⟩; obtain ⟨xa, xcap, rfl⟩ := ownV_slice o3; have HB3 := Lib.hid (HB2.out.trans (b3.mono HB2.out.size)); have HG3 := Lib.hid ((b3.block w1.heap.size (Array.getElem?_eq_some_iff.1 HG2.out).1).trans HG2.out); have HL3 := Lib.hid (ownV_later HL2.out b3); have HX3 := Lib.hid o3; clear o3 b3))
  clear g0 g1 g2 HG2 HL2 HB2 HB1
  have HCE := Lib.hid (fun (x : SlotV) (hx : x ∈ slG (r, c, s)) w => by
    have h := icel_any r c s x.1 x.2.1 x.2.2.1 x.2.2.2 (by omega) w
    rw [show ((x.1, x.2.1, x.2.2.1, x.2.2.2) : SlotV) = x from rfl, clG_in hx] at h
    exact h)
  have HCK := Lib.hid (fun q h1 h2 w => ick_any r c s q (by omega) h1 h2 w)
  have HCB := Lib.hid (fun q w => icb_any r c s q (by omega) w)
  have HUN := Lib.hid (fun q h1 h2 w => iun_any r c s q (by omega) h1 h2 w)
  have HSH := Lib.hid (fun w => ish_any r c s (by omega) w)
  have HCF := Lib.hid (fun x hx => cross_facts (g := (r, c, s)) (x := x) hx)
  have HSL := Lib.hid (share_len (r, c, s))
  have HSU := Lib.hid (sumC_all (r, c, s))
  have HUA := Lib.hid (unch_all (r, c, s))
  have HUT := Lib.hid (fun i h => unch_at (r, c, s) (i := i) h)
  have HLA := Lib.hid (fun i h => len_at (g := (r, c, s)) (i := i) h)
  have HLE := Lib.hid (slG_length (r, c, s))
  have HXE := Lib.hid (crossS_no_more (r, c, s))
  obtain ⟨l, hl⟩ : ∃ l, l = slG (r, c, s) := ⟨_, rfl⟩
  rw [← hl] at HL3 HCE HCK HCF HSU HUA HUT HLA HLE ⊢
  clear hl
  obtain ⟨X, hX⟩ : ∃ X, X = crossS (r, c, s) := ⟨_, rfl⟩
  rw [← hX] at HX3 HCF HSL HSU HXE ⊢
  clear hX
  have hl72 := HLE.out
  have hx36 := HXE.out
  simp only at HCF HSU HUT HLA
  have HGK : Hid (∀ W, Below w3.heap.size w3 W → W.cell? ⟨w1.heap.size, 0, none⟩ = some (.int .i64 r) ∧ W.cell? ⟨w1.heap.size, 1, none⟩ = some (.int .i64 c) ∧ W.cell? ⟨w1.heap.size, 2, none⟩ = some (.string s)) := Lib.hid (fun W h => cells3x ((h.block _ (Array.getElem?_eq_some_iff.1 HG3.out).1).trans HG3.out))
  go_loopw [6] (fun i wr => ∃ k : Nat, k ≤ X.length ∧ i = .int .i64 (k : Int) ∧ Hid (Below w3.heap.size w3 wr)) (fun i _ => X.length - (intOf i).toNat)
  case atStart => exact ⟨0, Nat.zero_le _, rfl, Lib.hid (Below.refl _ _)⟩
  case round =>
    obtain ⟨k, hk, rfl, HB⟩ := hrel
    by_cases hlt : k < X.length
    · have hd : decide ((k : Int) < (X.length : Int)) = true := decide_eq_true (by omega)
      have hd9 : decide (k < X.length) = true := decide_eq_true hlt
      obtain ⟨i, j, p, r', q, hxe, hij, hi, hj, hp, hpq, hr, hrq, hdir, hck, hcb1, hcb2, hqs⟩ := HCF.out _ (cross_in hlt)
      obtain ⟨bx, rfl, -⟩ := cross_cells HX3.out rfl k hlt
      obtain ⟨bs, rfl, -⟩ := slot_cells HL3.out rfl i hi
      have hq63 : (q : Int) ≤ 9223372036854775807 := by omega
      have HXE2 := Lib.hid hxe
      have HCI := Lib.hid (HCE.out _ (getD_in hi))
      have HCJ := Lib.hid (HCE.out _ (getD_in hj))
      obtain ⟨-, hi6⟩ := HLA.out i hi
      obtain ⟨-, hj6⟩ := HLA.out j hj
      obtain ⟨x, hx⟩ : ∃ x, x = l.getD i none_Slot := ⟨_, rfl⟩
      obtain ⟨y, hy⟩ : ∃ y, y = l.getD j none_Slot := ⟨_, rfl⟩
      have HXX := Lib.hid hx
      have HYY := Lib.hid hy
      rw [← hx] at HCI hi6 hp hpq hdir
      rw [← hy] at HCJ hj6 hr hrq hdir
      clear hx hy hxe
      obtain ⟨x1, x2, x3, x4⟩ := x
      obtain ⟨y1, y2, y3, y4⟩ := y
      simp only at HCI HCJ hdir
      obtain ⟨ci, hci⟩ : ∃ ci, ci = cellsS c (x1, x2, x3, x4) := ⟨_, rfl⟩
      obtain ⟨cj, hcj⟩ : ∃ cj, cj = cellsS c (y1, y2, y3, y4) := ⟨_, rfl⟩
      rw [← hci] at HCI hi6 hp hpq
      rw [← hcj] at HCJ hj6 hr hrq
      clear hci hcj
      have HPQ := Lib.hid hpq
      have HRQ := Lib.hid hrq
      clear hpq hrq
      have HSX : Hid (∀ W : World, Below w3.heap.size w3 W → (W.cell? ⟨w1.heap.size, 0, none⟩ = some (.int .i64 r) ∧ W.cell? ⟨w1.heap.size, 1, none⟩ = some (.int .i64 c) ∧ W.cell? ⟨w1.heap.size, 2, none⟩ = some (.string s)) ∧ (W.cell? ⟨bx, k * 5, none⟩ = some (.int .i64 (i : Int)) ∧ W.cell? ⟨bx, k * 5 + 1, none⟩ = some (.int .i64 (j : Int)) ∧ W.cell? ⟨bx, k * 5 + 2, none⟩ = some (.int .i64 (p : Int)) ∧ W.cell? ⟨bx, k * 5 + 3, none⟩ = some (.int .i64 (r' : Int)) ∧ W.cell? ⟨bx, k * 5 + 4, none⟩ = some (.int .i64 (q : Int))) ∧ (W.cell? ⟨bs, i * 4, none⟩ = some (.int .i64 x1) ∧ W.cell? ⟨bs, i * 4 + 1, none⟩ = some (.bool x2) ∧ W.cell? ⟨bs, i * 4 + 2, none⟩ = some (.int .i64 x3) ∧ W.cell? ⟨bs, i * 4 + 3, none⟩ = some (.int .i64 x4)) ∧ (W.cell? ⟨bs, j * 4, none⟩ = some (.int .i64 y1) ∧ W.cell? ⟨bs, j * 4 + 1, none⟩ = some (.bool y2) ∧ W.cell? ⟨bs, j * 4 + 2, none⟩ = some (.int .i64 y3) ∧ W.cell? ⟨bs, j * 4 + 3, none⟩ = some (.int .i64 y4))) := Lib.hid (fun W h => by
        obtain ⟨b9, e9, c0, c1, c2, c3, c4⟩ := cross_cells (ownV_later HX3.out h) rfl k hlt
        obtain ⟨b8, e8, s0, s1, s2, s3⟩ := slot_cells (ownV_later HL3.out h) rfl i hi
        obtain ⟨b7, e7, u0, u1, u2, u3⟩ := slot_cells (ownV_later HL3.out h) rfl j hj
        injection e9 with e9; injection e9 with e9; subst e9
        injection e8 with e8; injection e8 with e8; subst e8
        injection e7 with e7; injection e7 with e7; subst e7
        rw [HXE2.out] at c0 c1 c2 c3 c4
        rw [← HXX.out] at s0 s1 s2 s3
        rw [← HYY.out] at u0 u1 u2 u3
        exact ⟨HGK.out _ h, ⟨c0, c1, c2, c3, c4⟩, ⟨s0, s1, s2, s3⟩, u0, u1, u2, u3⟩)
      have HKQ := Lib.hid (fun w => by
        have h := HCK.out (q : Int) (by omega) hq63 w
        rw [hck] at h
        exact h)
      have HCI1 := Lib.hid hcb1
      have HCJ1 := Lib.hid hcb2
      clear hck hcb1 hcb2
      have hi0 : (0 : Int) ≤ (i : Int) := by omega
      have hj0 : (0 : Int) ≤ (j : Int) := by omega
      have hp0 : (0 : Int) ≤ (p : Int) := by omega
      have hr0 : (0 : Int) ≤ (r' : Int) := by omega
      have hge : decide ((j : Int) ≤ (i : Int)) = false := decide_eq_false (by omega)
      have hge2 : decide (j ≤ i) = false := decide_eq_false (by omega)
      have hdd : (x2 == y2) = false := by simpa using hdir
      have hde : decide (x2 = y2) = false := decide_eq_false hdir
      have hil : (i : Int) < (l.length : Int) := by omega
      have hjl : (j : Int) < (l.length : Int) := by omega
      have hpl : (p : Int) < (ci.length : Int) := by omega
      have hrl : (r' : Int) < (cj.length : Int) := by omega
      go_wp2_with fail
      go_cut [7] (fun v wx => ∃ ba capa, v = .slice (some ⟨ba, 0, none⟩) ci.length capa ∧ Hid (wx.ownsRow w3.heap.size 3 1 (.slice (some ⟨ba, 0, none⟩) ci.length capa) ci.length (ci.map (Value.int .i64))) ∧ Hid (Below w3.heap.size w3 wx))
      case first => as_aux_lemma =>
        have hbn : Below w3.heap.size w3 wr := HB.out
        go_region_held3 (fun W => (W.cell? ⟨w1.heap.size, 0, none⟩ = some (.int .i64 r) ∧ W.cell? ⟨w1.heap.size, 1, none⟩ = some (.int .i64 c) ∧ W.cell? ⟨w1.heap.size, 2, none⟩ = some (.string s)) ∧ (W.cell? ⟨bx, k * 5, none⟩ = some (.int .i64 (i : Int)) ∧ W.cell? ⟨bx, k * 5 + 1, none⟩ = some (.int .i64 (j : Int)) ∧ W.cell? ⟨bx, k * 5 + 2, none⟩ = some (.int .i64 (p : Int)) ∧ W.cell? ⟨bx, k * 5 + 3, none⟩ = some (.int .i64 (r' : Int)) ∧ W.cell? ⟨bx, k * 5 + 4, none⟩ = some (.int .i64 (q : Int))) ∧ (W.cell? ⟨bs, i * 4, none⟩ = some (.int .i64 x1) ∧ W.cell? ⟨bs, i * 4 + 1, none⟩ = some (.bool x2) ∧ W.cell? ⟨bs, i * 4 + 2, none⟩ = some (.int .i64 x3) ∧ W.cell? ⟨bs, i * 4 + 3, none⟩ = some (.int .i64 x4)) ∧ (W.cell? ⟨bs, j * 4, none⟩ = some (.int .i64 y1) ∧ W.cell? ⟨bs, j * 4 + 1, none⟩ = some (.bool y2) ∧ W.cell? ⟨bs, j * 4 + 2, none⟩ = some (.int .i64 y3) ∧ W.cell? ⟨bs, j * 4 + 3, none⟩ = some (.int .i64 y4))) (first | exact HSX.out _ hbn | exact HSX.out _ hbn.drew) (first | (go_at_call 12; refine Calls.mono (HCI.out _) ?_; rintro e w5 ⟨v5, rfl, o5, b5⟩; obtain ⟨a5, cap5, rfl⟩ := ownV_slice o5; have HA5 := Lib.hid (own_widen o5 (by first | exact hbn.size | exact hbn.drew.size)); have hbm : Below w3.heap.size w3 _ := (by first | exact hbn.trans (b5.mono hbn.size) | exact hbn.drew.trans (b5.mono hbn.drew.size) | exact hbn.drew.trans b5); clear hbn; have hbn := hbm; clear hbm b5; clear o5))
        all_goals (go_wp2_with fail; go_meet; obtain ⟨ba, rfl, -⟩ := int_cell HA5.out rfl p hp; exact ⟨ba, cap5, rfl, HA5, Lib.hid hbn⟩)
      case rest =>
        obtain ⟨ba, capa, rfl, HA, HB9⟩ := hcut
        obtain ⟨wd, rfl⟩ : ∃ wd, wd = wc := ⟨wc, rfl⟩
        have HS2 : Hid (∀ W : World, Below wd.heap.size wd W → ((W.cell? ⟨w1.heap.size, 0, none⟩ = some (.int .i64 r) ∧ W.cell? ⟨w1.heap.size, 1, none⟩ = some (.int .i64 c) ∧ W.cell? ⟨w1.heap.size, 2, none⟩ = some (.string s)) ∧ (W.cell? ⟨bx, k * 5, none⟩ = some (.int .i64 (i : Int)) ∧ W.cell? ⟨bx, k * 5 + 1, none⟩ = some (.int .i64 (j : Int)) ∧ W.cell? ⟨bx, k * 5 + 2, none⟩ = some (.int .i64 (p : Int)) ∧ W.cell? ⟨bx, k * 5 + 3, none⟩ = some (.int .i64 (r' : Int)) ∧ W.cell? ⟨bx, k * 5 + 4, none⟩ = some (.int .i64 (q : Int))) ∧ (W.cell? ⟨bs, i * 4, none⟩ = some (.int .i64 x1) ∧ W.cell? ⟨bs, i * 4 + 1, none⟩ = some (.bool x2) ∧ W.cell? ⟨bs, i * 4 + 2, none⟩ = some (.int .i64 x3) ∧ W.cell? ⟨bs, i * 4 + 3, none⟩ = some (.int .i64 x4)) ∧ (W.cell? ⟨bs, j * 4, none⟩ = some (.int .i64 y1) ∧ W.cell? ⟨bs, j * 4 + 1, none⟩ = some (.bool y2) ∧ W.cell? ⟨bs, j * 4 + 2, none⟩ = some (.int .i64 y3) ∧ W.cell? ⟨bs, j * 4 + 3, none⟩ = some (.int .i64 y4))) ∧ W.cell? ⟨ba, p, none⟩ = some (.int .i64 (q : Int))) := Lib.hid (fun W h => by
          obtain ⟨b9, e9, c0⟩ := int_cell (own_later HA.out h) rfl p hp
          injection e9 with e9; injection e9 with e9; subst e9
          rw [HPQ.out] at c0
          exact ⟨HSX.out _ (HB9.out.trans (h.mono HB9.out.size)), c0⟩)
        go_wp2_with fail
        go_cut [8] (fun v wx => ∃ bb capb, v = .slice (some ⟨bb, 0, none⟩) cj.length capb ∧ Hid (wx.ownsRow w3.heap.size 3 1 (.slice (some ⟨bb, 0, none⟩) cj.length capb) cj.length (cj.map (Value.int .i64))) ∧ Hid (Below wd.heap.size wd wx))
        case first => as_aux_lemma =>
          have hbn : Below wd.heap.size wd wd := Below.refl _ _
          go_region_held3 (fun W => ((W.cell? ⟨w1.heap.size, 0, none⟩ = some (.int .i64 r) ∧ W.cell? ⟨w1.heap.size, 1, none⟩ = some (.int .i64 c) ∧ W.cell? ⟨w1.heap.size, 2, none⟩ = some (.string s)) ∧ (W.cell? ⟨bx, k * 5, none⟩ = some (.int .i64 (i : Int)) ∧ W.cell? ⟨bx, k * 5 + 1, none⟩ = some (.int .i64 (j : Int)) ∧ W.cell? ⟨bx, k * 5 + 2, none⟩ = some (.int .i64 (p : Int)) ∧ W.cell? ⟨bx, k * 5 + 3, none⟩ = some (.int .i64 (r' : Int)) ∧ W.cell? ⟨bx, k * 5 + 4, none⟩ = some (.int .i64 (q : Int))) ∧ (W.cell? ⟨bs, i * 4, none⟩ = some (.int .i64 x1) ∧ W.cell? ⟨bs, i * 4 + 1, none⟩ = some (.bool x2) ∧ W.cell? ⟨bs, i * 4 + 2, none⟩ = some (.int .i64 x3) ∧ W.cell? ⟨bs, i * 4 + 3, none⟩ = some (.int .i64 x4)) ∧ (W.cell? ⟨bs, j * 4, none⟩ = some (.int .i64 y1) ∧ W.cell? ⟨bs, j * 4 + 1, none⟩ = some (.bool y2) ∧ W.cell? ⟨bs, j * 4 + 2, none⟩ = some (.int .i64 y3) ∧ W.cell? ⟨bs, j * 4 + 3, none⟩ = some (.int .i64 y4))) ∧ W.cell? ⟨ba, p, none⟩ = some (.int .i64 (q : Int))) (first | exact HS2.out _ hbn | exact HS2.out _ hbn.drew) (first | (go_at_call 12; refine Calls.mono (HCJ.out _) ?_; rintro e w5 ⟨v5, rfl, o5, b5⟩; obtain ⟨a5, cap5, rfl⟩ := ownV_slice o5; have HA5 := Lib.hid (own_widen o5 (by first | exact Nat.le_trans HB9.out.size hbn.size | exact Nat.le_trans HB9.out.size hbn.drew.size)); have hbm : Below wd.heap.size wd _ := (by first | exact hbn.trans (b5.mono hbn.size) | exact hbn.drew.trans (b5.mono hbn.drew.size) | exact hbn.drew.trans b5); clear hbn; have hbn := hbm; clear hbm b5; clear o5))
          all_goals (go_wp2_with fail; go_meet; obtain ⟨bb, rfl, -⟩ := int_cell HA5.out rfl r' hr; exact ⟨bb, cap5, rfl, HA5, Lib.hid hbn⟩)
        case rest =>
        obtain ⟨bb, capb, rfl, HBB, HB8⟩ := hcut
        have HS3 : Hid (∀ W : World, Below wc.heap.size wc W → (((W.cell? ⟨w1.heap.size, 0, none⟩ = some (.int .i64 r) ∧ W.cell? ⟨w1.heap.size, 1, none⟩ = some (.int .i64 c) ∧ W.cell? ⟨w1.heap.size, 2, none⟩ = some (.string s)) ∧ (W.cell? ⟨bx, k * 5, none⟩ = some (.int .i64 (i : Int)) ∧ W.cell? ⟨bx, k * 5 + 1, none⟩ = some (.int .i64 (j : Int)) ∧ W.cell? ⟨bx, k * 5 + 2, none⟩ = some (.int .i64 (p : Int)) ∧ W.cell? ⟨bx, k * 5 + 3, none⟩ = some (.int .i64 (r' : Int)) ∧ W.cell? ⟨bx, k * 5 + 4, none⟩ = some (.int .i64 (q : Int))) ∧ (W.cell? ⟨bs, i * 4, none⟩ = some (.int .i64 x1) ∧ W.cell? ⟨bs, i * 4 + 1, none⟩ = some (.bool x2) ∧ W.cell? ⟨bs, i * 4 + 2, none⟩ = some (.int .i64 x3) ∧ W.cell? ⟨bs, i * 4 + 3, none⟩ = some (.int .i64 x4)) ∧ (W.cell? ⟨bs, j * 4, none⟩ = some (.int .i64 y1) ∧ W.cell? ⟨bs, j * 4 + 1, none⟩ = some (.bool y2) ∧ W.cell? ⟨bs, j * 4 + 2, none⟩ = some (.int .i64 y3) ∧ W.cell? ⟨bs, j * 4 + 3, none⟩ = some (.int .i64 y4))) ∧ W.cell? ⟨ba, p, none⟩ = some (.int .i64 (q : Int))) ∧ W.cell? ⟨bb, r', none⟩ = some (.int .i64 (q : Int))) := Lib.hid (fun W h => by
          obtain ⟨b9, e9, c0⟩ := int_cell (own_later HBB.out h) rfl r' hr
          injection e9 with e9; injection e9 with e9; subst e9
          rw [HRQ.out] at c0
          exact ⟨HS2.out _ (HB8.out.trans (h.mono HB8.out.size)), c0⟩)
        clear HS2
        go_upto_region 11 with (fail)
        dsimp only [List.append]
        go_cut [120] (fun v wx => v = .bool false ∧ Hid (Below w3.heap.size w3 wx))
        case first => as_aux_lemma =>
          have hbn : Below wc.heap.size wc wc := Below.refl _ _
          go_region_held3 (fun W => (((W.cell? ⟨w1.heap.size, 0, none⟩ = some (.int .i64 r) ∧ W.cell? ⟨w1.heap.size, 1, none⟩ = some (.int .i64 c) ∧ W.cell? ⟨w1.heap.size, 2, none⟩ = some (.string s)) ∧ (W.cell? ⟨bx, k * 5, none⟩ = some (.int .i64 (i : Int)) ∧ W.cell? ⟨bx, k * 5 + 1, none⟩ = some (.int .i64 (j : Int)) ∧ W.cell? ⟨bx, k * 5 + 2, none⟩ = some (.int .i64 (p : Int)) ∧ W.cell? ⟨bx, k * 5 + 3, none⟩ = some (.int .i64 (r' : Int)) ∧ W.cell? ⟨bx, k * 5 + 4, none⟩ = some (.int .i64 (q : Int))) ∧ (W.cell? ⟨bs, i * 4, none⟩ = some (.int .i64 x1) ∧ W.cell? ⟨bs, i * 4 + 1, none⟩ = some (.bool x2) ∧ W.cell? ⟨bs, i * 4 + 2, none⟩ = some (.int .i64 x3) ∧ W.cell? ⟨bs, i * 4 + 3, none⟩ = some (.int .i64 x4)) ∧ (W.cell? ⟨bs, j * 4, none⟩ = some (.int .i64 y1) ∧ W.cell? ⟨bs, j * 4 + 1, none⟩ = some (.bool y2) ∧ W.cell? ⟨bs, j * 4 + 2, none⟩ = some (.int .i64 y3) ∧ W.cell? ⟨bs, j * 4 + 3, none⟩ = some (.int .i64 y4))) ∧ W.cell? ⟨ba, p, none⟩ = some (.int .i64 (q : Int))) ∧ W.cell? ⟨bb, r', none⟩ = some (.int .i64 (q : Int))) (first | exact HS3.out _ hbn | exact HS3.out _ hbn.drew) (first | (go_at_call 13; refine Calls.mono (HKQ.out _) ?_; rintro e w6 ⟨rfl, b6⟩; have hbm : Below wc.heap.size wc _ := (by first | exact hbn.trans (b6.mono hbn.size) | exact hbn.drew.trans (b6.mono hbn.drew.size) | exact hbn.drew.trans b6); clear hbn; have hbn := hbm; clear hbm b6))
          all_goals (go_wp2_with fail; go_meet; exact ⟨rfl, Lib.hid (HB9.out.trans ((HB8.out.trans (hbn.mono HB8.out.size)).mono HB9.out.size))⟩)
        case rest =>
        obtain ⟨rfl, HB10⟩ := hcut
        clear HA HB9 HS3 HBB HB8
        have HB1 := Lib.hid (HCB.out (i : Int))
        have HB2 := Lib.hid (HCB.out (j : Int))
        obtain ⟨Ci, hCi⟩ : ∃ Ci, Ci = crossedS (r, c, s) (i : Int) := ⟨_, rfl⟩
        obtain ⟨Cj, hCj⟩ : ∃ Cj, Cj = crossedS (r, c, s) (j : Int) := ⟨_, rfl⟩
        rw [← hCi] at HB1 HCI1
        rw [← hCj] at HB2 HCJ1
        have HL1 : Hid (Ci.length ≤ 16777216) := Lib.hid (by rw [hCi]; exact crossedS_len _ _ (by show s.size ≤ _; omega))
        have HL2 : Hid (Cj.length ≤ 16777216) := Lib.hid (by rw [hCj]; exact crossedS_len _ _ (by show s.size ≤ _; omega))
        clear hCi hCj
        have HC1 : Hid (∀ (v : Value) (w : World), Reads w.heap.size w v .i64 Ci → Calls Try.prog 14 #[v, .int .i64 (j : Int)] w fun e w' => e = .returned (.bool true) ∧ Below w.heap.size w w') := Lib.hid (fun v w h => by
          have h9 := lcon_any Ci (j : Int) HL1.out v w h
          rw [HCI1.out] at h9
          exact h9)
        have HC2 : Hid (∀ (v : Value) (w : World), Reads w.heap.size w v .i64 Cj → Calls Try.prog 14 #[v, .int .i64 (i : Int)] w fun e w' => e = .returned (.bool true) ∧ Below w.heap.size w w') := Lib.hid (fun v w h => by
          have h9 := lcon_any Cj (i : Int) HL2.out v w h
          rw [HCJ1.out] at h9
          exact h9)
        clear HCI1 HCJ1
        go_wp2_with fail
        go_cut [150] (fun v wx => v = .bool false ∧ Hid (Below w3.heap.size w3 wx))
        case first => as_aux_lemma =>
          have hbn : Below w3.heap.size w3 _ := HB10.out
          have G1 := Lib.hid trivial
          go_wp2_with fail
          have HS5 : Hid (∀ W : World, Below w3.heap.size w3 W → W.cell? ⟨w1.heap.size, 0, none⟩ = some (.int .i64 r) ∧ W.cell? ⟨w1.heap.size, 1, none⟩ = some (.int .i64 c) ∧ W.cell? ⟨w1.heap.size, 2, none⟩ = some (.string s) ∧ W.cell? ⟨bx, k * 5, none⟩ = some (.int .i64 (i : Int)) ∧ W.cell? ⟨bx, k * 5 + 1, none⟩ = some (.int .i64 (j : Int))) := Lib.hid (fun W h => by
            obtain ⟨⟨e1, e2, e3⟩, ⟨e4, e5, -⟩, -⟩ := HSX.out W h
            exact ⟨e1, e2, e3, e4, e5⟩)
          clear HSX HXE2 HXX HYY HCI HCJ HKQ HPQ HRQ HX3 HL3 HCE HCK HCB HUN HSH HCF HSL HSU HUA HUT HLA HGK
          go_region_held3 (fun W => W.cell? ⟨w1.heap.size, 0, none⟩ = some (.int .i64 r) ∧ W.cell? ⟨w1.heap.size, 1, none⟩ = some (.int .i64 c) ∧ W.cell? ⟨w1.heap.size, 2, none⟩ = some (.string s) ∧ W.cell? ⟨bx, k * 5, none⟩ = some (.int .i64 (i : Int)) ∧ W.cell? ⟨bx, k * 5 + 1, none⟩ = some (.int .i64 (j : Int))) (first | exact HS5.out _ hbn | exact HS5.out _ hbn.drew) (first | (have FG := G1; go_at_call 15; refine Calls.mono (HB1.out _) ?_; rintro e w7 ⟨v7, rfl, o7, b7⟩; have HR7 := Lib.hid (reads_ints o7 (by have := HL1.out; omega)); have hbm : Below w3.heap.size w3 _ := (by first | exact hbn.trans (b7.mono hbn.size) | exact hbn.drew.trans (b7.mono hbn.drew.size) | exact hbn.drew.trans b7); clear hbn; have hbn := hbm; clear hbm b7; clear o7 G1 FG; have G2 := Lib.hid trivial) | (have FG := G2; go_at_call 14; refine Calls.mono (HC1.out _ _ (by first | exact HR7.out | exact HR7.out.now ((Below.refl _ _).drew))) ?_; rintro e w8 ⟨rfl, b8⟩; have hbm : Below w3.heap.size w3 _ := (by first | exact hbn.trans (b8.mono hbn.size) | exact hbn.drew.trans (b8.mono hbn.drew.size) | exact hbn.drew.trans b8); clear hbn; have hbn := hbm; clear hbm b8; clear G2 FG; have G3 := Lib.hid trivial) | (have FG := G3; go_at_call 15; refine Calls.mono (HB2.out _) ?_; rintro e w9 ⟨v9, rfl, o9, b9⟩; have HR9 := Lib.hid (reads_ints o9 (by have := HL2.out; omega)); have hbm : Below w3.heap.size w3 _ := (by first | exact hbn.trans (b9.mono hbn.size) | exact hbn.drew.trans (b9.mono hbn.drew.size) | exact hbn.drew.trans b9); clear hbn; have hbn := hbm; clear hbm b9; clear o9 G3 FG; have G4 := Lib.hid trivial) | (have FG := G4; go_at_call 14; refine Calls.mono (HC2.out _ _ (by first | exact HR9.out | exact HR9.out.now ((Below.refl _ _).drew))) ?_; rintro e w10 ⟨rfl, b10⟩; have hbm : Below w3.heap.size w3 _ := (by first | exact hbn.trans (b10.mono hbn.size) | exact hbn.drew.trans (b10.mono hbn.drew.size) | exact hbn.drew.trans b10); clear hbn; have hbn := hbm; clear hbm b10; clear G4 FG))
          all_goals (go_wp2_with fail; go_meet; exact ⟨rfl, Lib.hid hbn⟩)
        case rest =>
        obtain ⟨rfl, HB11⟩ := hcut
        go_wp2_with fail
        go_roundw
        case rel => exact ⟨k + 1, by omega, by go_num, HB11⟩
        case measure => simp [intOf]; omega
    · have hd : decide ((k : Int) < (X.length : Int)) = false := decide_eq_false (by omega)
      have hd9 : decide (k < X.length) = false := decide_eq_false hlt
      clear HCF HCK HCB HCE HX3 hlt hk
      obtain ⟨SH, hSH⟩ : ∃ SH, SH = shareS (r, c, s) := ⟨_, rfl⟩
      rw [← hSH] at HSH HSL
      clear hSH
      obtain ⟨sh1, sh2⟩ := SH
      simp only at HSH HSL
      have hsl1 := HSL.out.1
      have hsl2 := HSL.out.2
      subst hsl1
      obtain ⟨g0, g1, g2⟩ := HGK.out _ HB.out
      go_wp2_with (go_at_call 16; refine (HSH.out _).mono ?_; rintro e w4 ⟨rfl, b4⟩; have HB4 := Lib.hid (HB.out.trans (b4.mono HB.out.size)); clear b4)
      clear g0 g1 g2
      go_loopw [11, 12] (fun a i wr => ∃ m : Nat, m ≤ l.length ∧ i = .int .i64 (m : Int) ∧ a = .int .i64 ((sumC l c m : Nat) : Int) ∧ Hid (sumC l c m ≤ 6 * m) ∧ Hid (Below w3.heap.size w3 wr)) (fun _ i _ => l.length - (intOf i).toNat)
      case atStart => exact ⟨0, Nat.zero_le _, rfl, rfl, Lib.hid (by simp [sumC]), HB4⟩
      case round => as_aux_lemma =>
        clear HB HB4
        obtain ⟨m, hm, rfl, rfl, HS6, HB⟩ := hrel
        by_cases hlt : m < l.length
        · have hd2 : decide ((m : Int) < (l.length : Int)) = true := decide_eq_true (by omega)
          have hd3 : decide (m < l.length) = true := decide_eq_true hlt
          have HNX := Lib.hid (sumC_next l c m)
          have HCU := Lib.hid (ch_unch l c (cellsS c (l.getD m none_Slot)))
          obtain ⟨hl1, hl6⟩ := HLA.out m hlt
          have HU1 := Lib.hid (fun w => by
            have h := HUN.out (m : Int) (by omega) (by omega) w
            rw [HUT.out m hlt] at h
            exact h)
          obtain ⟨bs, rfl, -⟩ := slot_cells HL3.out rfl m hlt
          have HSX : Hid (∀ W, Below w3.heap.size w3 W → (W.cell? ⟨w1.heap.size, 0, none⟩ = some (.int .i64 r) ∧ W.cell? ⟨w1.heap.size, 1, none⟩ = some (.int .i64 c) ∧ W.cell? ⟨w1.heap.size, 2, none⟩ = some (.string s)) ∧ W.cell? ⟨bs, m * 4 + 3, none⟩ = some (.int .i64 ((cellsS c (l.getD m none_Slot)).length : Int))) := Lib.hid (fun W h => by
            obtain ⟨b9, e9, -, -, -, s3⟩ := slot_cells (ownV_later HL3.out h) rfl m hlt
            injection e9 with e9; injection e9 with e9; subst e9
            rw [hl1] at s3
            exact ⟨HGK.out _ h, s3⟩)
          obtain ⟨Zl, hZl⟩ : ∃ Zl, Zl = (cellsS c (l.getD m none_Slot)).length := ⟨_, rfl⟩
          obtain ⟨Ul, hUl⟩ : ∃ Ul, Ul = unchN l c (cellsS c (l.getD m none_Slot)) := ⟨_, rfl⟩
          obtain ⟨Cl, hCl⟩ : ∃ Cl, Cl = chN l c (cellsS c (l.getD m none_Slot)) := ⟨_, rfl⟩
          rw [← hZl] at HCU HSX hl6
          rw [← hUl] at HCU HU1
          rw [← hCl] at HCU HNX
          clear hZl hUl hCl hl1
          obtain ⟨Sm, hSm⟩ : ∃ Sm, Sm = sumC l c m := ⟨_, rfl⟩
          rw [← hSm] at HNX HS6 ⊢
          clear hSm
          have hs6 := HS6.out
          have hcu := HCU.out
          have hw1 : IntKind.i64.wrap ((Sm : Int) + (Zl : Int)) = (Sm : Int) + (Zl : Int) := by rw [IntKind.wrap_i64]; omega
          have hw2 : IntKind.i64.wrap ((Sm : Int) + (Zl : Int) - (Ul : Int)) = ((Sm + Cl : Nat) : Int) := by rw [IntKind.wrap_i64]; omega
          have hbn : Below w3.heap.size w3 wr := HB.out
          go_wp2_with fail
          go_region_held3 (fun W => (W.cell? ⟨w1.heap.size, 0, none⟩ = some (.int .i64 r) ∧ W.cell? ⟨w1.heap.size, 1, none⟩ = some (.int .i64 c) ∧ W.cell? ⟨w1.heap.size, 2, none⟩ = some (.string s)) ∧ W.cell? ⟨bs, m * 4 + 3, none⟩ = some (.int .i64 (Zl : Int))) (first | exact HSX.out _ hbn | exact HSX.out _ hbn.drew) (first | (go_at_call 17; refine Calls.mono (HU1.out _) ?_; rintro e w5 ⟨rfl, b5⟩; have hbm : Below w3.heap.size w3 _ := (by first | exact hbn.trans (b5.mono hbn.size) | exact hbn.drew.trans (b5.mono hbn.drew.size) | exact hbn.drew.trans b5); clear hbn; have hbn := hbm; clear hbm b5))
          all_goals go_wp2_with fail
          all_goals go_roundw
          all_goals first | exact ⟨m + 1, by omega, by go_num, by rw [HNX.out]; first | rfl | simp, Lib.hid (by rw [HNX.out]; omega), Lib.hid hbn⟩ | (simp [intOf]; omega)
        · have hd2 : decide ((m : Int) < (l.length : Int)) = false := decide_eq_false (by omega)
          have hd3 : decide (m < l.length) = false := decide_eq_false hlt
          have hml : m = l.length := by omega
          have hsu : sumC l c m = 2 * X.length := by rw [hml]; exact HSU.out
          have HU1 := Lib.hid (fun w => by
            have h := HUN.out (l.length : Int) (by omega) (by omega) w
            rw [HUA.out] at h
            exact h)
          obtain ⟨g0, g1, g2⟩ := HGK.out _ HB.out
          rw [hsu]
          have hw3 : IntKind.i64.wrap (2 * (X.length : Int)) = 2 * (X.length : Int) := by rw [IntKind.wrap_i64]; omega
          have he3 : (((2 * X.length : Nat) : Int) == 2 * (X.length : Int)) = true := by simp
          have hle : decide ((X.length : Int) ≤ sh2) = true := decide_eq_true hsl2
          go_wp2_with (go_at_call 17; refine (HU1.out _).mono ?_; rintro e w5 ⟨rfl, b5⟩; have HB5 := Lib.hid (HB.out.trans (b5.mono HB.out.size)); clear b5)
          go_ret
          exact ⟨rfl, HB3.out.trans (HB5.out.mono HB3.out.size)⟩
theorem dco_any (n cap : Nat) (a0 : Option Addr) (w : World) (hc : Code w.heap.size w a0 n) (hn : n ≤ 1048576) :
    Calls Try.prog 9 #[.slice a0 n cap] w fun e w' => ∃ (r c : Int) (s : ByteArray), (LO ≤ r ∧ r ≤ HI) ∧ (LO ≤ c ∧ c ≤ HI) ∧ s.size ≤ 40 ∧ e = .returned (.agg #[.int .i64 r, .int .i64 c, .string s]) ∧ Below w.heap.size w w' := by
  go_enter Try.func9, Try.ntmps9
  go_wp2_with fail
  obtain ⟨W0, hW0⟩ : ∃ W0, W0 = w.alloc (.cells #[.int .i64 0, .int .i64 0, .string ⟨#[]⟩] 25) := ⟨_, rfl⟩
  have HR0 : Hid (W0.heap[w.heap.size]? = some (.cells #[.int .i64 0, .int .i64 0, .string ⟨#[]⟩] 25)) := Lib.hid (by rw [hW0]; exact new_block w _)
  have HB0 : Hid (Below w.heap.size w W0) := Lib.hid (by rw [hW0]; exact (Below.refl _ _).alloc (Nat.le_refl _) _)
  have hc0 := code_later hc HB0.out
  rw [← hW0]
  clear hW0 hc
  go_wp2_with (first | (go_at_call 33; refine (dig_any n cap a0 _ hc0 hn).mono ?_; rintro e w2 ⟨gr, gc, gs, qr, qc, q40, rfl, b2⟩; have HR2 := Lib.hid ((b2.block w.heap.size (size_of_heap HR0.out)).trans HR0.out); have HB2 := Lib.hid (HB0.out.trans (b2.mono HB0.out.size)); clear b2; obtain ⟨z0, z1, z2, y0, y1, y2⟩ := cells3 HR2.out))
  exact bodyPost_ret (v := .agg #[.int .i64 gr, .int .i64 gc, .string gs]) (by simp [results, Try.results9, go_sem, z0, z1, z2]) rfl ⟨gr, gc, gs, qr, qc, q40, rfl, (((HB2.out.setCell (p := ⟨w.heap.size, 0, none⟩) (by simp) _).setCell (p := ⟨w.heap.size, 1, none⟩) (by simp) _).setCell (p := ⟨w.heap.size, 2, none⟩) (by simp) _)⟩
theorem dco_small (n cap : Nat) (a0 : Option Addr) (w : World) (hc : Code w.heap.size w a0 n) (hn : n ≤ 1048576) :
    Calls Try.prog 9 #[.slice a0 n cap] w fun e w' => ∃ (r c : Int) (s : ByteArray), s.size ≤ 40 ∧ e = .returned (.agg #[.int .i64 r, .int .i64 c, .string s]) ∧ Below w.heap.size w w' :=
  (dco_any n cap a0 w hc hn).mono fun _ _ ⟨r, c, s, _, _, h3, h4, h5⟩ => ⟨r, c, s, h3, h4, h5⟩
namespace fnCrossings
set_option maxRecDepth 100000 in
set_option maxHeartbeats 800000 in
theorem walk (v0 : Value) (l0 : List Int) (w : World) (hR : Reads w.heap.size w v0 .u8 l0) (hB : ∀ z ∈ l0, 0 ≤ z ∧ z ≤ 255) :
    Calls Try.prog 3 #[v0] w fun e w' => e = .returned (.bool true) ∧ Below w.heap.size w w' := by
  obtain ⟨a0, cap, rfl⟩ : ∃ a0 cap, v0 = .slice a0 l0.length cap := ⟨hR.2.choose, hR.2.choose_spec.choose, hR.2.choose_spec.choose_spec.1⟩
  have hc := code_of_reads hR rfl hB
  clear hR hB
  by_cases hbig : 1048576 < l0.length
  · go_enter Try.func3, Try.ntmps3
    go_wp2_with (go_at_call 8; refine (big_yes l0.length cap a0 hbig _).mono ?_; rintro e w1 ⟨rfl, rfl⟩)
    go_ret
    exact ⟨rfl, Below.refl _ _⟩
  · exact crossings_walk l0.length cap a0 w (fun w => big_no l0.length cap a0 (by omega) w) (dco_small l0.length cap a0 w hc (by omega))
end fnCrossings
end Go.Proofs.Ythgnhcjbjdhjfaa
