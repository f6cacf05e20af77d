/-
  Forced, of the model and of the program.
-/
import Derived.Test.YtgjijmcedonlmaaGreatDoorFillU
import Derived.Test.YtgjijmcedonlmaaGreatDoorFillE
import Derived.Test.YtgjijmcedonlmaaGreatDoorNest
import Derived.Deep.RegionHeld3
namespace Go.Proofs.YtgjijmcedonlmaaGreatDoor
open Go.RowKit

def forcedTo (g : Int × Int × ByteArray) (f : ByteArray) (D : List (List ByteArray)) : Nat → Option ByteArray
  | 0 => some f
  | n + 1 => match forcedTo g f D n with
    | none => none
    | some t => if (D.getD n []).length = 1 then (if (putF g t (n : Int) ((D.getD n []).getD 0 ⟨#[]⟩)).2 = true then some (putF g t (n : Int) ((D.getD n []).getD 0 ⟨#[]⟩)).1 else none) else some t
def forcedF (g : Int × Int × ByteArray) (f : ByteArray) (D : List (List ByteArray)) : ByteArray × Bool :=
  if D.length = (slG g).length then (match forcedTo g f D D.length with | some t => (t, true) | none => (f, false)) else (f, false)
theorem forced_none {g : Int × Int × ByteArray} {f : ByteArray} {D : List (List ByteArray)} {k : Nat} (h : forcedTo g f D k = none) : ∀ n, k ≤ n → forcedTo g f D n = none := by
  intro n hn
  induction n with
  | zero => obtain rfl : k = 0 := by omega
            exact h
  | succ n ih =>
    by_cases e : k = n + 1
    · rw [← e]; exact h
    · rw [forcedTo, ih (by omega)]
theorem putF_sizeG {g : Int × Int × ByteArray} {t x : ByteArray} {k : Int} : (putF g t k x).1.size = t.size := by
  by_cases h : fitsP (patF g t k) x = true
  · rw [putF_yes h]
    exact (put_keeps h).1
  · rw [putF_no (by simpa using h)]
theorem forced_keep {g : Int × Int × ByteArray} {f t : ByteArray} {D : List (List ByteArray)} {k : Nat} (h : forcedTo g f D k = some t) (hn : (D.getD k []).length ≠ 1) : forcedTo g f D (k + 1) = some t := by
  rw [forcedTo, h]
  exact if_neg hn
theorem forced_put {g : Int × Int × ByteArray} {f t : ByteArray} {D : List (List ByteArray)} {k : Nat} (h : forcedTo g f D k = some t) (hn : (D.getD k []).length = 1) :
    forcedTo g f D (k + 1) = if (putF g t (k : Int) ((D.getD k []).getD 0 ⟨#[]⟩)).2 = true then some (putF g t (k : Int) ((D.getD k []).getD 0 ⟨#[]⟩)).1 else none := by
  rw [forcedTo, h]
  exact if_pos hn
theorem forced_fail {g : Int × Int × ByteArray} {f : ByteArray} {D : List (List ByteArray)} (hl : D.length = (slG g).length) {k : Nat} (hk : k ≤ D.length) (h : forcedTo g f D k = none) : forcedF g f D = (f, false) := by
  unfold forcedF
  rw [if_pos hl, forced_none h _ hk]
theorem forced_done {g : Int × Int × ByteArray} {f t : ByteArray} {D : List (List ByteArray)} (hl : D.length = (slG g).length) (h : forcedTo g f D D.length = some t) : forcedF g f D = (t, true) := by
  unfold forcedF
  rw [if_pos hl, h]
set_option maxRecDepth 100000 in
set_option maxHeartbeats 3200000 in
theorem ifor_any (r c : Int) (s f : ByteArray) (D : List (List ByteArray)) (hs : s.size ≤ 4194304) (hf : f.size ≤ 1048576) (hm : ∀ m ∈ D, m.length ≤ 1048576 ∧ ∀ z ∈ m, z.size ≤ 1048576) (v : Value) (w : World) (ml : ML w) (hv : ReadsN w.heap.size w v D) :
    Calls Tryz.prog 13 #[.agg #[.int .i64 r, .int .i64 c, .string s], .string f, v] w fun e w' => e = .returned (.tuple #[.string (forcedF (r, c, s) f D).1, .bool (forcedF (r, c, s) f D).2]) ∧ Below w.heap.size w w' := by
  have HSL := Lib.hid (fun w => islo_any r c s hs w)
  have HPW : Hid (∀ (t : ByteArray) (k : Nat) (x : ByteArray) (W : World), t.size = f.size → x.size ≤ 1048576 → Below w.heap.size w W → Calls Tryz.prog 31 #[.agg #[.int .i64 r, .int .i64 c, .string s], .string t, .int .i64 (k : Int), .string x] W fun e w' => e = .returned (.tuple #[.string (putF (r, c, s) t k x).1, .bool (putF (r, c, s) t k x).2]) ∧ Below W.heap.size W w') := Lib.hid (fun t k x W ht hx hW => ipw_any r c s t k x hs (by omega) hx W (ml.later hW))
  have HBX : Hid (Below w.heap.size w (w.alloc (.cells #[.int .i64 r, .int .i64 c, .string s] 25))) := Lib.hid ((Below.refl _ _).alloc (Nat.le_refl _) _)
  have HKP : Hid (∀ w', Below (w.alloc (.cells #[.int .i64 r, .int .i64 c, .string s] 25)).heap.size (w.alloc (.cells #[.int .i64 r, .int .i64 c, .string s] 25)) w' → w'.cell? ⟨w.heap.size, 0, none⟩ = some (.int .i64 r) ∧ w'.cell? ⟨w.heap.size, 1, none⟩ = some (.int .i64 c) ∧ w'.cell? ⟨w.heap.size, 2, none⟩ = some (.string s)) := Lib.hid (fun w' h => ⟨(h.cell (p := ⟨w.heap.size, 0, none⟩) (by simp)).trans (by simp), (h.cell (p := ⟨w.heap.size, 1, none⟩) (by simp)).trans (by simp), (h.cell (p := ⟨w.heap.size, 2, none⟩) (by simp)).trans (by simp)⟩)
  have HM := Lib.hid hm
  obtain ⟨-, a0, cap, rfl, -, hc⟩ := hv.cells
  have HC := Lib.hid hc
  have HLEN := Lib.hid (slG_length (r, c, s))
  have HFA := Lib.hid (fun (hl : D.length = (slG (r, c, s)).length) (k : Nat) hk h => forced_fail (f := f) hl (k := k) hk h)
  have HDO := Lib.hid (fun (hl : D.length = (slG (r, c, s)).length) t h => forced_done (f := f) (t := t) hl h)
  have HNO : Hid (D.length ≠ (slG (r, c, s)).length → forcedF (r, c, s) f D = (f, false)) := Lib.hid (fun h => by unfold forcedF; exact if_neg h)
  obtain ⟨l, hl⟩ : ∃ l, l = slG (r, c, s) := ⟨_, rfl⟩
  rw [← hl] at HSL HLEN HFA HDO HNO
  clear hl hv hc hm
  have hl72 := HLEN.out
  go_enter Tryz.func13, Tryz.ntmps13
  go_wp2_with fail
  obtain ⟨W0, hW0⟩ : ∃ W0, W0 = w.alloc (.cells #[.int .i64 r, .int .i64 c, .string s] 25) := ⟨_, rfl⟩
  have hws : W0.heap.size = w.heap.size + 1 := by rw [hW0]; simp
  rw [← hW0] at HKP HBX ⊢
  clear hW0
  obtain ⟨d0, d1, d2⟩ := HKP.out _ (Below.refl _ _)
  by_cases h1 : D.length = l.length
  · have hne : ((D.length : Int) == (l.length : Int)) = true := by rw [h1]; exact beq_self_eq_true _
    have hnn : ((D.length : Int) != (l.length : Int)) = false := by rw [h1]; exact bne_self_eq_false _
    have hd72 : D.length ≤ 72 := by omega
    have HFA := Lib.hid (HFA.out h1)
    have HDO := Lib.hid (HDO.out h1)
    clear h1 HNO
    go_wp2_with (go_at_call 8; refine (HSL.out _).mono ?_; rintro e w2 ⟨v2, rfl, o2, b2⟩; obtain ⟨a2, cap2, rfl⟩ := ownV_slice o2; have HB2 := Lib.hid b2; clear o2 b2)
    clear d0 d1 d2
    go_loopw [8, 23] (fun o i wr => ∃ (k : Nat) (t : ByteArray), k ≤ D.length ∧ i = .int .i64 (k : Int) ∧ o = .string t ∧ Hid (forcedTo (r, c, s) f D k = some t) ∧ Hid (t.size = f.size) ∧ Hid (Below W0.heap.size W0 wr)) (fun _ i _ => D.length - (intOf i).toNat)
    case atStart => exact ⟨0, f, Nat.zero_le _, rfl, rfl, Lib.hid rfl, Lib.hid rfl, HB2⟩
    case round =>
      clear HB2
      obtain ⟨k, t, hk, rfl, rfl, HT, HTS, HB⟩ := hrel
      by_cases hlt : k < D.length
      · have hd : decide ((k : Int) < (D.length : Int)) = true := decide_eq_true (by omega)
        have HBW := Lib.hid (HBX.out.trans (HB.out.mono HBX.out.size))
        obtain ⟨b, off, u, rfl, hb, hcell, hu⟩ := HC.out k hlt
        have hcell := (HBW.out.cell (p := ⟨b, off + k, none⟩) hb).trans hcell
        have HMK := Lib.hid (HM.out (D.getD k []) (by simp [List.getD, hlt]))
        have HKE := Lib.hid (fun hn => forced_keep HT.out hn)
        have HPU := Lib.hid (fun hn => forced_put HT.out hn)
        obtain ⟨-, a1, c1, rfl, -, hin⟩ := hu.cells
        obtain ⟨m, hm⟩ : ∃ m, m = D.getD k [] := ⟨_, rfl⟩
        rw [← hm] at hcell hin HMK HKE HPU
        clear hm hu
        by_cases hn : m.length = 1
        · have hPU := HPU.out hn
          have hmem : m.getD 0 ⟨#[]⟩ ∈ m := by simp [List.getD, show 0 < m.length by omega]
          have hxs := HMK.out.2 _ hmem
          obtain ⟨b1, off1, rfl, hb1, hx0⟩ := hin 0 (by omega)
          have hx0 := (HBW.out.cell (p := ⟨b1, off1 + 0, none⟩) hb1).trans hx0
          have hn1 : ((m.length : Int) != 1) = false := by rw [hn]; rfl
          have hn2 : ((m.length : Int) == 1) = true := by rw [hn]; rfl
          have hnp : 0 < m.length := by omega
          obtain ⟨x, hx⟩ : ∃ x, x = m.getD 0 ⟨#[]⟩ := ⟨_, rfl⟩
          rw [← hx] at hx0 hPU hxs
          have hx0 : wr.cell? ⟨b1, off1, none⟩ = some (.string x) := hx0
          have HP1 := Lib.hid (fun W hW => HPW.out t k x W HTS.out hxs hW)
          have HPS : Hid ((putF (r, c, s) t (k : Int) x).1.size = f.size) := Lib.hid (putF_sizeG.trans HTS.out)
          obtain ⟨⟨p1, p2⟩, hp⟩ : ∃ p, p = putF (r, c, s) t (k : Int) x := ⟨_, rfl⟩
          rw [← hp] at HP1 hPU HPS
          simp only at HP1 hPU HPS
          have HPU2 := Lib.hid hPU
          clear hx hp hPU hmem HKE HPU hn hin HPW
          have HS : Hid (∀ W, Below wr.heap.size wr W → ((W.cell? ⟨w.heap.size, 0, none⟩ = some (.int .i64 r) ∧ W.cell? ⟨w.heap.size, 1, none⟩ = some (.int .i64 c) ∧ W.cell? ⟨w.heap.size, 2, none⟩ = some (.string s)) ∧ W.cell? ⟨b, off + k, none⟩ = some (.slice (some ⟨b1, off1, none⟩) m.length c1) ∧ W.cell? ⟨b1, off1, none⟩ = some (.string x))) := Lib.hid (fun W h => ⟨HKP.out _ (HB.out.trans (h.mono HB.out.size)), (h.cell (p := ⟨b, off + k, none⟩) (World.block_lt_of_cell? wr _ hcell)).trans hcell, (h.cell (p := ⟨b1, off1, none⟩) (World.block_lt_of_cell? wr _ hx0)).trans hx0⟩)
          have hbn : Below wr.heap.size wr wr := Below.refl _ _
          go_wp2_with fail
          go_region_held3 (fun W => ((W.cell? ⟨w.heap.size, 0, none⟩ = some (.int .i64 r) ∧ W.cell? ⟨w.heap.size, 1, none⟩ = some (.int .i64 c) ∧ W.cell? ⟨w.heap.size, 2, none⟩ = some (.string s)) ∧ W.cell? ⟨b, off + k, none⟩ = some (.slice (some ⟨b1, off1, none⟩) m.length c1) ∧ W.cell? ⟨b1, off1, none⟩ = some (.string x))) (first | exact HS.out _ hbn | exact HS.out _ hbn.drew) (first | (go_at_call 31; refine Calls.mono (HP1.out _ (by first | exact HBW.out.trans (hbn.mono HBW.out.size) | exact HBW.out.trans (hbn.drew.mono HBW.out.size))) ?_; rintro e w3 ⟨rfl, b3⟩; have hbn : Below wr.heap.size wr w3 := (by first | exact hbn.trans (b3.mono hbn.size) | exact hbn.drew.trans (b3.mono hbn.size)); clear b3))
          have HB3 := Lib.hid (HB.out.trans (hbn.mono HB.out.size))
          clear hbn
          cases p2 with
          | false =>
            have HG := Lib.hid (HFA.out (k + 1) hlt (by rw [HPU2.out]; rfl))
            go_wp2_with fail
            go_ret2
            exact ⟨by rw [HG.out]; rfl, HBX.out.trans (HB3.out.mono HBX.out.size)⟩
          | true =>
            have HN := Lib.hid (HPU2.out.trans (if_pos rfl))
            go_wp2_with fail
            go_roundw
            case rel => exact ⟨k + 1, p1, by omega, by go_num, rfl, HN, HPS, HB3⟩
            case measure => simp [intOf]; omega
        · have hn1 : ((m.length : Int) != 1) = true := bne_iff_ne.2 (by omega)
          have hn2 : ((m.length : Int) == 1) = false := beq_eq_false_iff_ne.2 (by omega)
          have HK := Lib.hid (HKE.out hn)
          clear HKE HPU hn hin
          go_wp2_with fail
          go_roundw
          case rel => exact ⟨k + 1, t, by omega, by go_num, rfl, HK, HTS, HB⟩
          case measure => simp [intOf]; omega
      · have hd : decide ((k : Int) < (D.length : Int)) = false := decide_eq_false (by omega)
        obtain rfl : k = D.length := by omega
        have HG := Lib.hid (HDO.out t HT.out)
        go_wp2_with fail
        go_ret2
        exact ⟨by rw [HG.out]; rfl, HBX.out.trans (HB.out.mono HBX.out.size)⟩
  · have HF := Lib.hid (HNO.out h1)
    have hne : ((D.length : Int) == (l.length : Int)) = false := beq_eq_false_iff_ne.2 (by omega)
    have hnn : ((D.length : Int) != (l.length : Int)) = true := by rw [bne, hne]; rfl
    clear h1
    go_wp2_with (go_at_call 8; refine (HSL.out _).mono ?_; rintro e w2 ⟨v2, rfl, o2, b2⟩; obtain ⟨a2, cap2, rfl⟩ := ownV_slice o2; have HB2 := Lib.hid (HBX.out.trans (b2.mono HBX.out.size)); clear o2 b2)
    go_ret2
    exact ⟨by rw [HF.out]; rfl, HB2.out⟩
end Go.Proofs.YtgjijmcedonlmaaGreatDoor
