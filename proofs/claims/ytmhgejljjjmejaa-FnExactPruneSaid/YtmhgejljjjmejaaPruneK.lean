/-
  Prune of the program; Prune of both as the exact law's walk takes it.
-/
import Derived.Test.YtmhgejljjjmejaaPruneJ
import Derived.Test.YtmhgejljjjmejaaPruneT
import Derived.Test.YtmhgejljjjmejaaBoxN
import Derived.Test.YtmhgejljjjmejaaGridS
namespace Go.Proofs.Ytmhgejljjjmejaa
open Go.RowKit

theorem pruF_len {g : Int × Int × ByteArray} {D E : List (List ByteArray)} (h : PruF g D E) : E.length = D.length := by
  by_cases e : D.length = (slG g).length
  · obtain ⟨p, rfl, -⟩ := h.1 e
    exact subF_length _ _
  · rw [h.2 e]
theorem pruF_sub {g : Int × Int × ByteArray} {D E : List (List ByteArray)} (h : PruF g D E) (i : Nat) : (E.getD i []).Sublist (D.getD i []) := by
  by_cases e : D.length = (slG g).length
  · obtain ⟨p, rfl, hc, hm⟩ := h.1 e
    exact PartS.mem (⟨p, rfl, hm⟩ : PartS (slG g) (crossS g) D (subF p D)) i
  · rw [h.2 e]
    exact List.Sublist.refl _
theorem pruF_small {g : Int × Int × ByteArray} {D E : List (List ByteArray)} (h : PruF g D E) {b : Nat} (hD : ∀ m ∈ D, m.length ≤ b) : ∀ m ∈ E, m.length ≤ b := by
  intro m hm
  obtain ⟨i, hi, rfl⟩ := List.mem_iff_getElem.1 hm
  have h1 := (pruF_sub h i).length_le
  have h2 := pruF_len h
  simp only [List.getD_eq_getElem?_getD, List.getElem?_eq_getElem hi, List.getElem?_eq_getElem (show i < D.length by omega), Option.getD_some] at h1
  exact Nat.le_trans h1 (hD _ (List.getElem_mem _))
theorem cross_pairs (g : Int × Int × ByteArray) : ∀ x ∈ crossS g, ∃ i j p r q : Nat, x = ((i : Int), (j : Int), (p : Int), (r : Int), (q : Int)) ∧ i < j ∧ j < (slG g).length := by
  intro x hx
  obtain ⟨i, j, p, r, q, rfl, hij, hi, hj, -⟩ := cross_facts hx
  exact ⟨i, j, p, r, q, rfl, hij, hj⟩
theorem iprune_none (w : World) :
    Calls Try.prog 26 #[.agg #[.slice none 0 0, .slice none 0 0, .slice none 0 0]] w fun e w' => e = .returned (.tuple #[]) ∧ Below w.heap.size w w' := by
  have h := iprune_any [] [] [] (by decide) (by decide) rfl (fun m hm => by cases hm) (fun k hk => absurd hk (by simp)) (fun x hx => by cases hx) w.heap.size w.heap.size 0 0 0 0 w.heap.size none none none [] [] w (Nat.le_refl _) (World.ownsRow_nil w w.heap.size _ 4) (OwnN.nil w w.heap.size cM 3 _ _) (OwnN.nil w w.heap.size fS 1 _ _)
  refine Calls.mono h ?_
  rintro e w' ⟨rfl, E, us', -, -, hk⟩
  exact ⟨rfl, hk.os, hk.tape, hk.output, hk.size, fun k h1 => hk.block k h1 (.inl h1)⟩
set_option maxRecDepth 100000 in
set_option maxHeartbeats 3200000 in
theorem iprun_any (r c : Int) (s : ByteArray) (D : List (List ByteArray)) (hs : s.size ≤ 4194304) (hl : D.length ≤ 1048576) (hm : ∀ m ∈ D, m.length ≤ 1048576 ∧ ∀ z ∈ m, z.size ≤ 1048576) (v : Value) (w : World) (hv : ReadsN w.heap.size w v D) :
    Calls Try.prog 10 #[.agg #[.int .i64 r, .int .i64 c, .string s], v] w fun e w' => ∃ v' E, e = .returned v' ∧ OwnT w' w.heap.size w'.heap.size v' E ∧ PruF (r, c, s) D E ∧ Below w.heap.size w w' := by
  obtain ⟨i0, hi, hz0, hz1, hz2⟩ := info_parts infoStrS
  have HCA := Lib.hid (fun ad capd w => icand_any r c s D.length hs ad capd w)
  have HPR : Hid (D.length = (slG (r, c, s)).length → ∀ (base T1 cs nm cm capd topm : Nat) (as0 am a0 : Option Addr) (us ums : List Value) (w : World), T1 ≤ w.heap.size →
      w.ownsRow T1 45 4 (.slice as0 (slG (r, c, s)).length cs) (slG (r, c, s)).length (row_Slot (slG (r, c, s))) → OwnN cM 3 62 66 w T1 topm (.slice am nm cm) ums (meetTo (crossS (r, c, s)) (slG (r, c, s)).length (crossS (r, c, s)).length) →
      OwnN fS 1 33 9 w base T1 (.slice a0 D.length capd) us D →
      Calls Try.prog 26 #[.agg #[.slice as0 (slG (r, c, s)).length cs, .slice am nm cm, .slice a0 D.length capd]] w fun e w' =>
        e = .returned (.tuple #[]) ∧ ∃ E us', OwnN fS 1 33 9 w' base T1 (.slice a0 D.length capd) us' E ∧ PruS (slG (r, c, s)) (crossS (r, c, s)) D E ∧ KeptOut base T1 w w') := Lib.hid (fun hD base T1 cs nm cm capd topm as0 am a0 us ums w h1 h2 h3 h4 =>
    iprune_any _ _ D (crossS_no_more (r, c, s)) (slG_length (r, c, s)) hD hm (fun k hk => xfor_len (r, c, s) hk) (cross_pairs (r, c, s)) base T1 cs nm cm capd topm as0 am a0 us ums w h1 h2 h3 h4)
  have HPN := Lib.hid (fun w => iprune_none w)
  have HKP := Lib.hid (gbox_keep w r c s 28)
  have HCL := Lib.hid (fun (l : List ByteArray) (h : l.length ≤ 8388608) v w hv => cloneS_any l h v w hv)
  have HPF : Hid (∀ E, PruF (r, c, s) D E ↔ ((D.length = (slG (r, c, s)).length → PruS (slG (r, c, s)) (crossS (r, c, s)) D E) ∧ (D.length ≠ (slG (r, c, s)).length → E = D))) := Lib.hid (fun E => Iff.rfl)
  have HLEN := Lib.hid (slG_length (r, c, s))
  obtain ⟨l, hll⟩ : ∃ l, l = slG (r, c, s) := ⟨_, rfl⟩
  rw [← hll] at HCA HPR HPF HLEN
  obtain ⟨X, hX⟩ : ∃ X, X = crossS (r, c, s) := ⟨_, rfl⟩
  rw [← hX] at HCA HPR HPF
  clear hll hX
  obtain ⟨-, a1, cap1, rfl, -, hc⟩ := hv.cells
  have HC := Lib.hid hc
  have HM := Lib.hid hm
  clear hc hm hv
  go_enter Try.func10, Try.ntmps10
  go_wp2_with fail
  obtain ⟨W0, hW0⟩ : ∃ W0, W0 = w.alloc (.cells #[.int .i64 r, .int .i64 c, .string s] 28) := ⟨_, rfl⟩
  have hws : W0.heap.size = w.heap.size + 1 := by rw [hW0]; simp
  have HBX : Hid (Below w.heap.size w W0) := Lib.hid (by rw [hW0]; exact (Below.refl _ _).alloc (Nat.le_refl _) _)
  rw [← hW0] at HKP ⊢
  clear hW0
  have HO0 : Hid (OwnN fS 1 33 9 (W0.alloc (.cells #[] 33)) W0.heap.size (W0.alloc (.cells #[] 33)).heap.size (.slice (some ⟨w.heap.size + 1, 0, none⟩) 0 0) [] []) := Lib.hid (by rw [← hws]; exact OwnN.empty (own_empty2 W0 _ 1))
  have HB0 := Lib.hid ((Below.refl W0.heap.size W0).alloc (Nat.le_refl _) (.cells #[] 33))
  go_loopw [5, 11] (fun o i wr => ∃ k : Nat, k ≤ D.length ∧ i = .int .i64 (k : Int) ∧ Hid (∃ us, OwnN fS 1 33 9 wr W0.heap.size wr.heap.size o us (D.take k)) ∧ Hid (Below W0.heap.size W0 wr)) (fun _ i _ => D.length - (intOf i).toNat)
  case atStart => exact ⟨0, Nat.zero_le _, rfl, Lib.hid ⟨_, HO0.out⟩, HB0⟩
  case round =>
    clear HO0 HB0
    obtain ⟨k, hk, rfl, ⟨us, hn⟩, HB⟩ := hrel
    have HO := Lib.hid hn
    clear hn
    have HBW := Lib.hid (HBX.out.trans (HB.out.mono HBX.out.size))
    by_cases hlt : k < D.length
    · have hd : decide ((k : Int) < (D.length : Int)) = true := decide_eq_true (by omega)
      obtain ⟨b, off, u, rfl, hb, q0, hu⟩ := HC.out k hlt
      have hml := (HM.out _ (show D.getD k [] ∈ D by simp [List.getD, hlt])).1
      have HNX := Lib.hid (take_nextN D k [] hlt)
      have hkl : (D.take k).length = k := by simp; omega
      obtain ⟨L, hL⟩ : ∃ L, L = D.take k := ⟨_, rfl⟩
      rw [← hL] at HO HNX hkl
      obtain ⟨M, hM⟩ : ∃ M, M = D.getD k [] := ⟨_, rfl⟩
      rw [← hM] at hu hml HNX
      clear hL hM
      have HCM := Lib.hid (HCL.out M (by omega) u wr (ReadsV.wide (ReadsV.later hu HBW.out) HBW.out.size))
      have c0 := (HBW.out.cell (p := ⟨b, off + k, none⟩) hb).trans q0
      clear q0 hu
      go_wp2_with (first | (go_at_call 24; refine HCM.out.mono ?_; rintro e w5 ⟨v5, rfl, o5, b5⟩; obtain ⟨a5, c5, rfl⟩ := ownV_slice o5; have HB5 := Lib.hid (HB.out.trans (b5.mono HB.out.size)); have HO5 := Lib.hid (HO.out.later (Nat.le_refl _) b5); have HT5 := Lib.hid (fun q h => (o5.lt q h).1); have HU5 := Lib.hid (own_base (own_fS o5) HB.out.size); have HZ5 := Lib.hid b5.size; clear o5 b5) | (at_builtin; refine list_appendW _ rfl _ _ 24 rfl W0.heap.size 33 i0 (.slice none 0 0) 1 24 Try.underlying24 hi hz0 hz1 hz2 rfl (by decide) _ _ _ rfl (HO5.out.row.alloc _) ⟨w5.heap.size, 0, none⟩ 1 1 [.slice a5 M.length c5] rfl rfl (by decide) (by simp [Value.oneCell']) (one_srcN w5 _ _) (by omega) (by omega) (le_alloc HB5.out.size _) ?_; intro v6 w6 hown hgrow hwhere))
      have HB6 := Lib.hid ((HB5.out.alloc HB5.out.size (.cells #[.slice a5 M.length c5] 33)).grown hgrow (le_alloc HB5.out.size _) (fun q h => (HO5.out.low q h).1))
      have HN6 := Lib.hid (HO5.out.appended HZ5.out _ HU5.out HT5.out hown hgrow hwhere)
      clear hown hgrow hwhere
      go_roundw
      case rel => exact ⟨k + 1, by omega, by go_num, Lib.hid ⟨_, by rw [HNX.out]; exact HN6.out⟩, HB6⟩
      case measure => simp [intOf]; omega
    · have hd : decide ((k : Int) < (D.length : Int)) = false := decide_eq_false (by omega)
      obtain rfl : k = D.length := by omega
      have HO9 : Hid (OwnN fS 1 33 9 wr W0.heap.size wr.heap.size u5 us D) := Lib.hid (by
        have h9 := HO.out
        rw [List.take_length] at h9
        exact h9)
      clear HO
      obtain ⟨a5, c5, rfl⟩ := ownV_slice HO9.out.row
      obtain ⟨d0, d1, d2⟩ := HKP.out _ HB.out
      have HBS := HB.out.size
      by_cases h1 : D.length = l.length
      · have H1 := Lib.hid h1
        clear h1
        go_wp2_with (first | (go_at_call 25; refine (HCA.out a5 c5 wr).mono ?_; rintro e w6 ⟨sv, mv, dv, rfl, b6, hcase⟩; rcases hcase with ⟨hne, -⟩ | ⟨-, rfl, hsl, ums, hmt⟩; (exact absurd H1.out hne); obtain ⟨as0, cs, rfl⟩ := ownV_slice hsl; obtain ⟨am, cm, rfl⟩ := ownV_slice hmt.row; have HB6 := Lib.hid b6; have HSL := Lib.hid hsl; have HMT := Lib.hid hmt; clear b6 hsl hmt) | (go_at_call 26; refine (HPR.out H1.out W0.heap.size wr.heap.size cs _ cm c5 w6.heap.size as0 am a5 us ums w6 HB6.out.size HSL.out (by rw [← H1.out]; exact HMT.out) (HO9.out.later (Nat.le_refl _) HB6.out)).mono ?_; rintro e w7 ⟨rfl, E, us7, h5, h6, h7⟩; have HN7 := Lib.hid h5; have HP7 := Lib.hid h6; have HK7 := Lib.hid h7; clear h5 h6 h7))
        have HF : Hid (PruF (r, c, s) D E) := Lib.hid ((HPF.out E).2 ⟨fun _ => HP7.out, fun h => absurd H1.out h⟩)
        have HB7 := Lib.hid (HK7.out.below (HBW.out.trans (HB6.out.mono HBW.out.size)) (by omega) (by have := HB6.out.size; omega))
        go_ret
        exact ⟨_, E, rfl, ⟨us7, HN7.out.full.under (by omega)⟩, HF.out, HB7.out⟩
      · have HF : Hid (PruF (r, c, s) D D) := Lib.hid ((HPF.out D).2 ⟨fun h => absurd h h1, fun _ => rfl⟩)
        have H1 := Lib.hid h1
        clear h1
        go_wp2_with (first | (go_at_call 25; refine (HCA.out a5 c5 wr).mono ?_; rintro e w6 ⟨sv, mv, dv, rfl, b6, hcase⟩; rcases hcase with ⟨-, rfl, rfl, rfl⟩ | ⟨hne, -⟩; rotate_left; (exact absurd hne H1.out); have HB6 := Lib.hid b6; clear b6) | (go_at_call 26; refine (HPN.out w6).mono ?_; rintro e w7 ⟨rfl, b7⟩; have HB7 := Lib.hid (HB6.out.trans (b7.mono HB6.out.size)); clear b7))
        have HN7 := Lib.hid (HO9.out.now HB7.out)
        go_ret
        exact ⟨_, D, rfl, ⟨us, HN7.out.under (by omega)⟩, HF.out, HBW.out.trans (HB7.out.mono HBW.out.size)⟩
/- As the exact law's walk takes them. -/
theorem pruN_box {g : Int × Int × ByteArray} {D E : List (List ByteArray)} {w w' : World} {v' : Value} (h : PruF g D E) (hD : D.length ≤ 1048576) (hm : ∀ m ∈ D, m.length ≤ 1048576 ∧ ∀ z ∈ m, z.size ≤ 1048576) (ho : OwnT w' w.heap.size w'.heap.size v' E) : E.length ≤ 16777216 ∧ BoxN w' w.heap.size w'.heap.size v' E := by
  have h1 := pruF_len h
  exact ⟨by omega, ho, Nat.le_refl _, by omega, fun m hm9 => pruF_small h (fun m h => (hm m h).1) m hm9⟩
theorem u_Prune {g : Int × Int × ByteArray} {D x x' : List (List ByteArray)} (h : PruF g D x) (h' : PruF g D x') : x = x' := h.only h'
theorem s_Prune (r c : Int) (s : ByteArray) (v : Value) (l : List (List ByteArray)) (w : World) (_hK : ok_Grid (r, c, s)) (hs : s.size ≤ 1048576) (hv : ReadsN w.heap.size w v l) (hl : l.length ≤ 1048576) (hm : ∀ m ∈ l, m.length ≤ 1048576 ∧ ∀ z ∈ m, z.size ≤ 1048576) :
    Calls Try.prog 7 #[.agg #[.int .i64 r, .int .i64 c, .string s], v] w fun e w' => ∃ L v', PruF (r, c, s) l L ∧ L.length ≤ 16777216 ∧ e = .returned v' ∧ BoxN w' w.heap.size w'.heap.size v' L ∧ Below w.heap.size w w' :=
  (sprune_any r c s l (by omega) hl hm v w hv).mono fun _ _ ⟨v', E, h1, h2, h3, h4⟩ => ⟨E, v', h3, (pruN_box h3 hl hm h2).1, h1, (pruN_box h3 hl hm h2).2, h4⟩
theorem i_Prune (r c : Int) (s : ByteArray) (v : Value) (l : List (List ByteArray)) (w : World) (_hK : ok_Grid (r, c, s)) (hs : s.size ≤ 1048576) (hv : ReadsN w.heap.size w v l) (hl : l.length ≤ 1048576) (hm : ∀ m ∈ l, m.length ≤ 1048576 ∧ ∀ z ∈ m, z.size ≤ 1048576) :
    Calls Try.prog 10 #[.agg #[.int .i64 r, .int .i64 c, .string s], v] w fun e w' => ∃ L v', PruF (r, c, s) l L ∧ L.length ≤ 16777216 ∧ e = .returned v' ∧ BoxN w' w.heap.size w'.heap.size v' L ∧ Below w.heap.size w w' :=
  (iprun_any r c s l (by omega) hl hm v w hv).mono fun _ _ ⟨v', E, h1, h2, h3, h4⟩ => ⟨E, v', h3, (pruN_box h3 hl hm h2).1, h1, (pruN_box h3 hl hm h2).2, h4⟩
end Go.Proofs.Ytmhgejljjjmejaa
