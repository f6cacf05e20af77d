/-
  The program's contract of LettersAt.
-/
import Derived.Test.YthgnhcjbjdhjfaaDoorPatImplD
import Derived.Test.YthgnhcjbjdhjfaaDoorLset
import Derived.Test.YthgnhcjbjdhjfaaDoorSlF
namespace Go.Proofs.YthgnhcjbjdhjfaaDoor
open Go.RowKit

theorem del_any {p q : ByteArray → Bool} : ∀ l : List ByteArray, (delL p l).any q = l.any fun x => !p x && q x
  | [] => rfl
  | x :: l => by
    have h := del_any (p := p) (q := q) l
    unfold delL at h ⊢
    cases e : p x
    · rw [List.filter_cons_of_pos (by rw [e]; rfl), List.any_cons, List.any_cons, h, e]; rfl
    · rw [List.filter_cons_of_neg (by rw [e]; decide), List.any_cons, h, e]; rfl
/-- The letters that the words have, out of the words alone. -/
theorem lsS_del (l : List ByteArray) (t : Int) : lsS (delL (fun z => !isW z) l) t = foS l t l.length := by
  unfold lsS foS
  refine setTo_congr fun c _ => ?_
  unfold lsF foF hasAt
  rw [del_any, List.take_length]
  congr 1
  refine congrArg (fun f => l.any f) (funext fun x => ?_)
  unfold lsAt1 hasAt1
  rw [Bool.not_not, Bool.and_assoc]
set_option maxHeartbeats 800000 in
theorem nw_any (z : ByteArray) (w : World) :
    Calls Tryd.prog 49 #[.string z] w fun e w' => e = .returned (.bool (!isW z)) ∧ Below w.heap.size w w' := by
  have HIW := Lib.hid (fun w => iiw_any z w)
  obtain ⟨b, hb⟩ : ∃ b, b = isW z := ⟨_, rfl⟩
  rw [← hb] at HIW ⊢
  clear hb
  go_enter Tryd.func49, Tryd.ntmps49
  go_wp2_with (go_at_call 12; refine (HIW.out _).mono ?_; rintro e w2 ⟨rfl, b2⟩; have HB2 := Lib.hid b2; clear b2)
  go_ret
  exact ⟨rfl, HB2.out⟩
set_option maxRecDepth 100000 in
set_option maxHeartbeats 1600000 in
theorem ilet_any (l : List ByteArray) (t : Int) (hl : l.length ≤ 8388608) (v : Value) (w : World) (hd : DB w) (hv : ReadsS w.heap.size w v l) (hzs : ∀ z ∈ l, z.size ≤ 1048576) :
    Calls Tryd.prog 18 #[v, .int .i64 t] w fun e w' => e = .returned (.string (lettersA l t)) ∧ Below w.heap.size w w' := by
  obtain ⟨i0, hi, hz0, hz1, hz2⟩ := info_parts infoBP
  have eg : ∀ args w, (callFunc 49 args).run Tryd.prog w = .ok (.enter 49 args) w := enters_of Tryd.func49 (by kernel_rfl) rfl
  have HCL : Hid (∀ W, Below w.heap.size w W → Calls Tryd.prog 52 #[v] W fun e w' => ∃ v', e = .returned v' ∧ w'.ownsRow W.heap.size 9 1 v' l.length (l.map Value.string) ∧ Below W.heap.size W w') := Lib.hid (fun W hW => cloneS_any l hl v W (hv.now hW))
  have HDE : Hid (∀ (u : Value) (base : Nat) (W : World), W.ownsRow base 9 1 u l.length (l.map Value.string) → Calls Tryd.prog 51 #[u, .func (.func 49) #[] #[]] W fun e w' => ∃ v', e = .returned v' ∧ v'.ownBlock = u.ownBlock ∧ w'.ownsRow base 9 1 v' (delL (fun z => !isW z) l).length ((delL (fun z => !isW z) l).map Value.string) ∧ W.grownBy w' u.ownBlock) := Lib.hid (fun u base W ho => delS_any 49 #[] eg (fun z => !isW z) l (by omega) base u W ho (fun W' z _ _ => nw_any z W'))
  have HLS : Hid (∀ (u : Value) (W : World), ReadsS W.heap.size W u (delL (fun z => !isW z) l) → Calls Tryd.prog 50 #[u, .int .i64 t] W fun e w' => e = .returned (.int .u64 ((lsS (delL (fun z => !isW z) l) t : Nat) : Int)) ∧ W = w') := Lib.hid (fun u W h => lset_any (delL (fun z => !isW z) l) t (Nat.le_trans (List.length_filter_le _ _) (by omega)) u W h (fun z hz => hzs z ((List.mem_filter.1 hz).1)))
  have hdl : (delL (fun z => !isW z) l).length ≤ 8388608 := Nat.le_trans (List.length_filter_le _ _) hl
  rw [lsS_del] at HLS
  have HLET := Lib.hid (letters_set l t)
  have HIT : Hid (∀ c ∈ itemsTo (foS l t l.length) 64, c < 26) := Lib.hid (fun c hc => by
    have h3 := (itemsTo_lt hc).2
    unfold foS at h3
    rw [setTo_bit] at h3
    simp only [Bool.and_eq_true, decide_eq_true_eq] at h3
    exact h3.1)
  have hTl := foS_lt l t l.length
  have HI := Lib.hid (fun w h => itemsB_any (foS l t l.length) (by omega) w h)
  have hL64 := itemsTo_length (foS l t l.length) 64
  obtain ⟨L, hL⟩ : ∃ L, L = itemsTo (foS l t l.length) 64 := ⟨_, rfl⟩
  rw [← hL] at HIT HI hL64 HLET
  obtain ⟨T, hT⟩ : ∃ T, T = foS l t l.length := ⟨_, rfl⟩
  rw [← hT] at HI HLS hTl
  obtain ⟨Z, hZ⟩ : ∃ Z, Z = delL (fun z => !isW z) l := ⟨_, rfl⟩
  rw [← hZ] at HDE HLS hdl
  have HD := Lib.hid hd
  clear hL hT hZ hd hzs hv
  have HLSE := HLET
  go_enter Tryd.func18, Tryd.ntmps18
  go_wp2_with (first | (go_at_call 52; refine (HCL.out _ ((Below.refl w.heap.size w).alloc (Nat.le_refl _) _)).mono ?_; rintro e w1 ⟨v1, rfl, o1, b1⟩; have HB1 := Lib.hid (((Below.refl w.heap.size w).alloc (Nat.le_refl _) (.cells #[] 5)).trans (b1.mono (by simp))); have HB1Z : Hid (w.heap.size < w1.heap.size) := Lib.hid (by have := b1.size; rw [World.size_alloc] at this; omega); have HO1 := Lib.hid o1; have HE1 := Lib.hid (own_later (own_empty w 5) b1); clear o1 b1) | (go_at_call 51; refine (HDE.out _ _ _ HO1.out).mono ?_; rintro e w2 ⟨v2, rfl, hb2, o2, g2⟩; have HB2Z := Lib.hid g2.size; have HB2 := Lib.hid (HB1.out.grown g2 HB1.out.size (fun q h => by have := (HO1.out.lt q h).1; rw [World.size_alloc] at this; omega)); have HR2 := Lib.hid (readsS_own o2 rfl (by omega)); have HE2 := Lib.hid (HE1.out.kept g2 (Or.inr (fun h => by have := (HO1.out.lt w.heap.size h.symm).1; rw [World.size_alloc] at this; omega))); clear hb2 o2 g2) | (go_at_call 50; refine (HLS.out _ _ HR2.out).mono ?_; rintro e w3 ⟨rfl, rfl⟩) | (go_at_call 53; refine (HI.out _ (HD.out.later HB2.out)).mono ?_; rintro e w4 ⟨v3, rfl, o3, b3⟩; obtain ⟨al, cl, rfl⟩ := own_form o3; have HB3 := Lib.hid (btrans HB2.out b3); have HO3 := Lib.hid (own_later HE2.out b3); have HR3 := Lib.hid (reads_own o3 rfl (by rw [natI_length]; omega)); have HG3 := Lib.hid (fun b off (e : al = some ⟨b, off, none⟩) => (o3.lt b (by rw [e]; rfl)).1); have HZ3 := Lib.hid b3.size; clear o3 b3))
  have hnl := natI_length L
  have HCELL : Hid (∀ j, j < L.length → ∃ b off, al = some ⟨b, off, none⟩ ∧ b < w4.heap.size ∧ some b ≠ some w.heap.size ∧ w4.cell? ⟨b, off + j, none⟩ = some (.int .u8 ((L.getD j 0 : Nat) : Int))) := Lib.hid (by
    obtain ⟨-, a1, c1, e1, -, h1⟩ := HR3.out
    cases e1
    intro j hj
    obtain ⟨b, off, e2, e4, e3⟩ := h1 j (by omega)
    have hz1 := HB1Z.out
    have hz2 := HB2Z.out
    exact ⟨b, off, e2, e4, (by have := HG3.out b off e2; intro e; injection e with e; omega), by rw [e3, natI_at L j hj]⟩)
  have hsz3 := HB3.out.size
  rw [hnl]
  clear HR3 HG3 hnl
  go_loopw [6, 18] (fun o i wx => ∃ j : Nat, j ≤ L.length ∧ i = .int .i64 j ∧ Hid (wx.ownsRow w.heap.size 5 1 o (ltrI (L.take j)).length ((ltrI (L.take j)).map (Value.int .u8))) ∧ Hid (∀ j, j < L.length → ∃ b off, al = some ⟨b, off, none⟩ ∧ b < wx.heap.size ∧ some b ≠ o.ownBlock ∧ wx.cell? ⟨b, off + j, none⟩ = some (.int .u8 ((L.getD j 0 : Nat) : Int))) ∧ Hid (Below w.heap.size w wx) ∧ w.heap.size ≤ wx.heap.size) (fun _ i _ => L.length - (intOf i).toNat)
  case atStart => exact ⟨0, Nat.zero_le _, rfl, HO3, HCELL, HB3, hsz3⟩
  case round =>
    obtain ⟨j, hj, rfl, HO, HCJ, HBT, hzx⟩ := hrel
    by_cases hlt2 : j < L.length
    · obtain ⟨b, off, rfl, hb, hbo, c0⟩ := HCJ.out j hlt2
      have hc26 := HIT.out _ (getD_mem L j 0 hlt2)
      obtain ⟨c, hc'⟩ : ∃ c, c = L.getD j 0 := ⟨_, rfl⟩
      rw [← hc'] at c0 hc26
      obtain ⟨X, hX⟩ : ∃ X, X = ltrI (L.take j) := ⟨_, rfl⟩
      have HTK : Hid (ltrI (L.take (j + 1)) = X ++ [97 + (c : Int)]) := Lib.hid (by rw [take_at L j 0 hlt2, hX, ← hc']; simp [ltrI])
      have hlen : X.length ≤ 64 := by rw [hX, ltrI_length, List.length_take]; omega
      rw [← hX] at HO
      have hwr : IntKind.u8.wrap (97 + (c : Int)) = 97 + (c : Int) := IntWalk.u8_in _ (by omega)
      clear hc' hX HCELL
      go_wp2_with (at_builtin; go_loud (refine append_one _ rfl _ _ 22 rfl w.heap.size 5 i0 (.int .u8 0) 1 Tryd.underlying22 hi hz0 hz1 hz2 rfl _ X.length (X.map (Value.int .u8)) rfl (own_later HO.out (Joins.below_alloc1 _ _)) ⟨_, 0, none⟩ 1 .u8 (97 + (c : Int)) rfl (by simp) (by omega) (by omega) (le_alloc hzx _) ?_; intro v5 w5 hown hgrow hwhere))
      have HB5 := Lib.hid (below_own (HBT.out.alloc HBT.out.size _) hgrow (own_later HO.out (Joins.below_alloc1 _ _)) (Nat.le_refl _) (le_alloc HBT.out.size _))
      have HC5 : Hid (∀ i, i < L.length → ∃ b' off', (some ⟨b, off, none⟩ : Option Addr) = some ⟨b', off', none⟩ ∧ b' < w5.heap.size ∧ some b' ≠ v5.ownBlock ∧ w5.cell? ⟨b', off' + i, none⟩ = some (.int .u8 ((L.getD i 0 : Nat) : Int))) := Lib.hid (fun i hi => by
        obtain ⟨b', off', e1, e2, e3, e4⟩ := HCJ.out i hi
        refine ⟨b', off', e1, by have := hgrow.size; simp at this; omega, ?_, hgrow.cell ((World.grownBy_alloc wr _ none).cell e4 (by simp)) e3⟩
        rcases hwhere with h | h
        · rw [h]; exact e3
        · rw [h]; simp; omega)
      have HO5 : Hid (w5.ownsRow w.heap.size 5 1 v5 (ltrI (L.take (j + 1))).length ((ltrI (L.take (j + 1))).map (Value.int .u8))) := Lib.hid (by rw [HTK.out, List.length_append, List.map_append]; exact hown)
      have hz5 : w.heap.size ≤ w5.heap.size := by have := hgrow.size; simp at this; omega
      clear hown hgrow hwhere
      go_roundw
      case rel => exact ⟨j + 1, by omega, by go_num, HO5, HC5, HB5, hz5⟩
      case measure => simp [intOf]; omega
    · have HV : Hid (strOfNums (ltrI (L.take j)) = lettersA l t) := Lib.hid (by
        rw [List.take_of_length_le (by omega), ltrI_str L HIT.out]
        exact HLSE.out)
      have hconv := conv_own (reads_own HO.out rfl (by rw [ltrI_length, List.length_take]; omega))
      rw [HV.out] at hconv
      go_wp2
      go_ret
      exact ⟨rfl, HBT.out⟩
theorem i_LettersAt (u : Value) (ws : List ByteArray) (t : Int) (w : World) (hR' : ReadsS w.heap.size w u ws) (hl' : ws.length ≤ 1048576) (hS' : ∀ z ∈ ws, z.size ≤ 1048576) (_lo : -9223372036854775808 ≤ t) (_hi : t ≤ 9223372036854775807) (hd : DB w) :
    Calls Tryd.prog 18 #[u, .int .i64 t] w fun e w' => ∃ r, r = lettersA ws t ∧ e = .returned (.string r) ∧ Below w.heap.size w w' :=
  (ilet_any ws t (by omega) u w hd hR' hS').mono fun _ _ ⟨h1, h2⟩ => ⟨_, rfl, h1, h2⟩
end Go.Proofs.YthgnhcjbjdhjfaaDoor
