/-
  The model's contract of EndWord.
-/
import Derived.Test.YtcpojeiciaghmaaScoreOf
namespace Go.Proofs.Ytcpojeiciaghmaa
open Go.RowKit

theorem own_emptyV (w : World) (e : TypeId) (s : Nat) : (w.alloc (.cells #[] e)).ownsRow w.heap.size e s (.slice (some ⟨w.heap.size, 0, none⟩) 0 0) 0 [] :=
  World.ownsRow_made w #[] 0 (Nat.le_refl _) (by decide) (by simp)
theorem row_Listed_cons (x : ByteArray × Int × Int × Int) (l : List (ByteArray × Int × Int × Int)) : row_Listed (x :: l) = cells_Listed x ++ row_Listed l := rfl
theorem srcV {W : World} {a0 : Option Addr} {s n cap : Nat} {xs : List Value} (h : ReadsV W.heap.size W (.slice a0 n cap) s n xs) (o : Obj) : ∀ j, j < n * s → ∃ b off, a0 = some ⟨b, off, none⟩ ∧ (W.alloc o).cell? ⟨b, off + j, none⟩ = xs[j]? := by
  obtain ⟨-, hx, a1, c1, e, -, h⟩ := h
  cases e
  intro j hj
  obtain ⟨b, off, e1, -, e3⟩ := h j hj
  obtain ⟨u, hu⟩ : ∃ u, xs[j]? = some u := ⟨_, List.getElem?_eq_getElem (by omega)⟩
  rw [hu] at e3
  exact ⟨b, off, e1, by rw [hu]; exact (World.grownBy_alloc W o none).cell e3 (by simp)⟩
theorem nilV {B : Nat} {W : World} {a0 : Option Addr} {s n cap : Nat} {xs : List Value} (h : ReadsV B W (.slice a0 n cap) s n xs) : a0 = none → cap = 0 := by
  obtain ⟨-, -, a1, c1, e, hc, -⟩ := h
  cases e
  exact hc.1

theorem own_formV {W : World} {base n s : Nat} {e : TypeId} {v : Value} {xs : List Value} (h : W.ownsRow base e s v n xs) (hn : 0 < n) : ∃ g c, base ≤ g ∧ v = .slice (some ⟨g, 0, none⟩) n c := by
  rcases h.2 with ⟨-, h0⟩ | ⟨g, capm, cur, rfl, hbg, -⟩
  · omega
  · exact ⟨g, capm, hbg, rfl⟩
theorem own_wideV {W : World} {base base' n s : Nat} {e : TypeId} {v : Value} {xs : List Value} (h : W.ownsRow base' e s v n xs) (hb : base ≤ base') : W.ownsRow base e s v n xs := by
  refine ⟨h.1, ?_⟩
  rcases h.2 with hn | ⟨g, cap, cur, rfl, hbg, rest⟩
  · exact .inl hn
  · exact .inr ⟨g, cap, cur, rfl, Nat.le_trans hb hbg, rest⟩
/-- A list with the end of the word at k set. -/
def setU (l : List (ByteArray × Int × Int × Int)) (k : Nat) (t : Int) : List (ByteArray × Int × Int × Int) := l.set k ((l.getD k none_Listed).1, (l.getD k none_Listed).2.1, t, (l.getD k none_Listed).2.2.2)
/-- What EndWord answers. -/
def endW (l : List (ByteArray × Int × Int × Int)) (x : ByteArray) (t : Int) : List (ByteArray × Int × Int × Int) × Bool :=
  if findL l x < 0 then (l, false) else if (l.getD (findL l x).toNat none_Listed).2.2.1 < t then (l, false) else if islW (setU l (findL l x).toNat t) = true then (setU l (findL l x).toNat t, true) else (l, false)

set_option maxHeartbeats 1600000 in
theorem send_none (l : List (ByteArray × Int × Int × Int)) (x : ByteArray) (t : Int) (hl : l.length ≤ 1048576) (v : Value) (w : World) (hv : ReadsListed w.heap.size w v l) (e : findL l x = -1) :
    Calls Try.prog 34 #[v, .string x, .int .i64 t] w fun e w' => ∃ v', e = .returned (.tuple #[v', .bool (endW l x t).2]) ∧ w'.ownsRow w.heap.size 32 4 v' (endW l x t).1.length (row_Listed (endW l x t).1) ∧ Below w.heap.size w w' := by
  obtain ⟨i0, hi, hz0, hz1, hz2⟩ := info_parts info_Listed
  have HV := Lib.hid hv
  have HFI := Lib.hid (fun v w h => sfind_any l x (by omega) v w h)
  obtain ⟨-, a0, cap, rfl, -, hc⟩ := hv.cells
  have HC := Lib.hid hc
  have HNIL := Lib.hid (nilV hv)
  have HONE := Lib.hid (row_Listed_one l)
  have HLEN := Lib.hid (row_Listed_length l)
  have HS0 := Lib.hid (fun o => srcV hv o)
  clear hc hv
  · have HE : Hid (endW l x t = (l, false)) := Lib.hid (by unfold endW; rw [e, if_pos (by decide)])
    rw [e] at HFI
    clear e
    go_enter Try.func34, Try.ntmps34
    go_wp2_with (first | (at_builtin; refine appendV_reads _ rfl _ _ 24 rfl w.heap.size 32 i0 (.agg #[.string ⟨#[]⟩, .int .i64 0, .int .i64 0, .int .i64 0]) 4 40 Try.underlying24 hi hz0 hz1 hz2 rfl (by decide) _ _ _ rfl (own_emptyV w 32 4) a0 l.length cap (row_Listed l) rfl HLEN.out HONE.out HNIL.out (HS0.out _) (by omega) (by omega) (le_alloc (Nat.le_refl _) _) ?_; intro v2 w2 hown hgrow; have HB2 := Lib.hid ((((Below.refl w.heap.size w).alloc (Nat.le_refl _) (.cells #[] 32))).grown hgrow (le_alloc (Nat.le_refl _) _) (fun k hk => by cases hk; exact Nat.le_refl _))) | (go_at_call 59; refine (HFI.out _ _ (HV.out.now HB2.out)).mono ?_; rintro e w3 ⟨rfl, b3⟩))
    have HO3 := Lib.hid (ownV_later hown b3)
    have HB3 := Lib.hid (HB2.out.trans (b3.mono HB2.out.size))
    clear hown hgrow b3
    go_ret2
    exact ⟨v2, by rw [HE.out]; rfl, by rw [HE.out]; have h9 := HO3.out; rw [Nat.zero_add, List.nil_append] at h9; exact h9, HB3.out⟩
theorem lrow_set2 : ∀ (m : List (ByteArray × Int × Int × Int)) (k : Nat) (_ : k < m.length) (t : Int), (row_Listed m).set (k * 4 + 2) (.int .i64 t) = row_Listed (setU m k t)
  | y :: m, 0, _, t => by
    simp [setU, row_Listed_cons, cells_Listed]
  | y :: m, k + 1, h, t => by
    have ih := lrow_set2 m k (by simpa using h) t
    rw [show setU (y :: m) (k + 1) t = y :: setU m k t by simp [setU], row_Listed_cons, row_Listed_cons, List.set_append_right _ _ (by simp [cells_Listed]; omega), ← ih]
    congr 2
    simp [cells_Listed]
    omega
theorem setU_length (l : List (ByteArray × Int × Int × Int)) (k : Nat) (t : Int) : (setU l k t).length = l.length := List.length_set
theorem send_early (l : List (ByteArray × Int × Int × Int)) (x : ByteArray) (t : Int) (hl : l.length ≤ 1048576) (v : Value) (w : World) (hv : ReadsListed w.heap.size w v l) (k : Nat) (hk : k < l.length) (e : findL l x = k) (hut : (l.getD k none_Listed).2.2.1 < t) :
    Calls Try.prog 34 #[v, .string x, .int .i64 t] w fun e w' => ∃ v', e = .returned (.tuple #[v', .bool (endW l x t).2]) ∧ w'.ownsRow w.heap.size 32 4 v' (endW l x t).1.length (row_Listed (endW l x t).1) ∧ Below w.heap.size w w' := by
  obtain ⟨i0, hi, hz0, hz1, hz2⟩ := info_parts info_Listed
  have HV := Lib.hid hv
  have HFI := Lib.hid (fun v w h => sfind_any l x (by omega) v w h)
  obtain ⟨-, a0, cap, rfl, -, hc⟩ := hv.cells
  have HC := Lib.hid hc
  have HNIL := Lib.hid (nilV hv)
  have HONE := Lib.hid (row_Listed_one l)
  have HLEN := Lib.hid (row_Listed_length l)
  have HS0 := Lib.hid (fun o => srcV hv o)
  clear hc hv
  · have HE : Hid (endW l x t = (l, false)) := Lib.hid (by unfold endW; rw [e, if_neg (by omega), Int.toNat_natCast, if_pos hut])
    rw [e] at HFI
    clear e
    obtain ⟨b, off, rfl, hb, -, -, q2, -⟩ := HC.out k hk
    obtain ⟨u, hu⟩ : ∃ u, u = (l.getD k none_Listed).2.2.1 := ⟨_, rfl⟩
    rw [← hu] at q2 hut
    have Q2 := Lib.hid q2
    have hd : decide (u < t) = true := decide_eq_true hut
    clear hu q2 hut
    go_enter Try.func34, Try.ntmps34
    go_wp2_with (first | (at_builtin; refine appendV_reads _ rfl _ _ 24 rfl w.heap.size 32 i0 (.agg #[.string ⟨#[]⟩, .int .i64 0, .int .i64 0, .int .i64 0]) 4 40 Try.underlying24 hi hz0 hz1 hz2 rfl (by decide) _ _ _ rfl (own_emptyV w 32 4) _ l.length cap (row_Listed l) rfl HLEN.out HONE.out HNIL.out (HS0.out _) (by omega) (by omega) (le_alloc (Nat.le_refl _) _) ?_; intro v2 w2 hown hgrow; have HB2 := Lib.hid ((((Below.refl w.heap.size w).alloc (Nat.le_refl _) (.cells #[] 32))).grown hgrow (le_alloc (Nat.le_refl _) _) (fun k hk => by cases hk; exact Nat.le_refl _))) | (go_at_call 59; refine (HFI.out _ _ (HV.out.now HB2.out)).mono ?_; rintro e w3 ⟨rfl, b3⟩; have HB3 := Lib.hid (HB2.out.trans (b3.mono HB2.out.size)); have c2 := (HB3.out.cell (p := ⟨b, off + k * 4 + 2, none⟩) hb).trans Q2.out))
    have HO3 := Lib.hid (ownV_later hown b3)
    clear hown hgrow b3
    go_ret2
    exact ⟨v2, by rw [HE.out]; rfl, by rw [HE.out]; have h9 := HO3.out; rw [Nat.zero_add, List.nil_append] at h9; exact h9, HB3.out⟩
set_option maxRecDepth 100000 in
set_option maxHeartbeats 1600000 in
theorem send_set (l : List (ByteArray × Int × Int × Int)) (x : ByteArray) (t : Int) (hl : l.length ≤ 1048576) (v : Value) (w : World) (hv : ReadsListed w.heap.size w v l) (k : Nat) (hk : k < l.length) (e : findL l x = k) (hut : ¬ (l.getD k none_Listed).2.2.1 < t) :
    Calls Try.prog 34 #[v, .string x, .int .i64 t] w fun e w' => ∃ v', e = .returned (.tuple #[v', .bool (endW l x t).2]) ∧ w'.ownsRow w.heap.size 32 4 v' (endW l x t).1.length (row_Listed (endW l x t).1) ∧ Below w.heap.size w w' := by
  obtain ⟨i0, hi, hz0, hz1, hz2⟩ := info_parts info_Listed
  have HV := Lib.hid hv
  have HFI := Lib.hid (fun v w h => sfind_any l x (by omega) v w h)
  obtain ⟨-, a0, cap, rfl, -, hc⟩ := hv.cells
  have HC := Lib.hid hc
  have HNIL := Lib.hid (nilV hv)
  have HONE := Lib.hid (row_Listed_one l)
  have HLEN := Lib.hid (row_Listed_length l)
  have HS0 := Lib.hid (fun o => srcV hv o)
  clear hc hv
  · obtain ⟨m, hm⟩ : ∃ m, m = setU l k t := ⟨_, rfl⟩
    have hml : m.length = l.length := by rw [hm, setU_length]
    obtain ⟨p, hp⟩ : ∃ p, p = islW m := ⟨_, rfl⟩
    have HIS := Lib.hid (fun v w h => sislist_any m (by omega) v w h)
    rw [← hp] at HIS
    have HE : Hid (endW l x t = if p = true then (m, true) else (l, false)) := Lib.hid (by unfold endW; rw [e, if_neg (by omega), Int.toNat_natCast, if_neg hut, ← hm, hp])
    have HM : Hid ((row_Listed l).set (k * 4 + 2) (.int .i64 t) = row_Listed m) := Lib.hid (by rw [hm]; exact lrow_set2 l k hk t)
    have HAT := Lib.hid (row_Listed_at l k hk 2 (by decide))
    rw [e] at HFI
    clear e hm hp
    obtain ⟨b, off, rfl, hb, -, -, q2, -⟩ := HC.out k hk
    obtain ⟨u, hu⟩ : ∃ u, u = (l.getD k none_Listed).2.2.1 := ⟨_, rfl⟩
    rw [← hu] at q2 hut
    have Q2 := Lib.hid q2
    have hd : decide (u < t) = false := decide_eq_false hut
    clear hu q2 hut
    cases p with
    | true =>
      have HE2 : Hid (endW l x t = (m, true)) := Lib.hid (by rw [HE.out, if_pos (by trivial)])
      clear HE
      go_enter Try.func34, Try.ntmps34
      have FL := Lib.hid trivial
      go_wp2_with (first | (at_builtin; have FG := FL; refine appendV_reads _ rfl _ _ 24 rfl w.heap.size 32 i0 (.agg #[.string ⟨#[]⟩, .int .i64 0, .int .i64 0, .int .i64 0]) 4 40 Try.underlying24 hi hz0 hz1 hz2 rfl (by decide) _ _ _ rfl (own_emptyV w 32 4) _ l.length cap (row_Listed l) rfl HLEN.out HONE.out HNIL.out (HS0.out _) (by omega) (by omega) (le_alloc (Nat.le_refl _) _) ?_; intro v2 w2 hown hgrow; rw [Nat.zero_add, List.nil_append] at hown; obtain ⟨g, capm, hgw, rfl⟩ := own_formV hown (by omega); have HB2 := Lib.hid ((((Below.refl w.heap.size w).alloc (Nat.le_refl _) (.cells #[] 32))).grown hgrow (le_alloc (Nat.le_refl _) _) (fun k hk => by cases hk; exact Nat.le_refl _)); clear FL FG) | (go_at_call 59; refine (HFI.out _ _ (HV.out.now HB2.out)).mono ?_; rintro e w3 ⟨rfl, b3⟩; have HB3 := Lib.hid (HB2.out.trans (b3.mono HB2.out.size)); have c2 := (HB3.out.cell (p := ⟨b, off + k * 4 + 2, none⟩) hb).trans Q2.out; have HO3 := Lib.hid (ownV_later hown b3); have d2 : w3.cell? ⟨g, k * 4 + 2, none⟩ = some (.int .i64 (l[k].2.2.1)) := (HO3.out.cellAt (k * 4 + 2) (by omega)).trans HAT.out; have f2 := HO3.out.frozenAt (k * 4 + 2); have HO5 : Hid ((w3.setCell ⟨g, k * 4 + 2, none⟩ (.int .i64 t)).ownsRow w.heap.size 32 4 (.slice (some ⟨g, 0, none⟩) l.length capm) l.length (row_Listed m)) := Lib.hid (by rw [← HM.out]; exact (HO3.out.stored _ _).1); have HB5 := Lib.hid (HB3.out.setCell (p := ⟨g, k * 4 + 2, none⟩) hgw (.int .i64 t)); clear b3) | (go_at_call 22; refine (HIS.out _ _ (reads_Listed_own HO5.out hml.symm (by omega))).mono ?_; rintro e w6 ⟨rfl, b6⟩; have HB6 := Lib.hid (HB5.out.trans (b6.mono HB5.out.size)); have HO6 := Lib.hid (ownV_later HO5.out b6); clear b6))
      go_ret2
      exact ⟨_, by rw [HE2.out]; rfl, by rw [HE2.out]; show w6.ownsRow _ _ _ _ m.length (row_Listed m); rw [hml]; exact HO6.out, HB6.out⟩
    | false =>
      have HE2 : Hid (endW l x t = (l, false)) := Lib.hid (by rw [HE.out, if_neg (by simp)])
      clear HE
      go_enter Try.func34, Try.ntmps34
      have FL := Lib.hid trivial
      go_wp2_with (first | (at_builtin; have FG := FL; refine appendV_reads _ rfl _ _ 24 rfl w.heap.size 32 i0 (.agg #[.string ⟨#[]⟩, .int .i64 0, .int .i64 0, .int .i64 0]) 4 40 Try.underlying24 hi hz0 hz1 hz2 rfl (by decide) _ _ _ rfl (own_emptyV w 32 4) _ l.length cap (row_Listed l) rfl HLEN.out HONE.out HNIL.out (HS0.out _) (by omega) (by omega) (le_alloc (Nat.le_refl _) _) ?_; intro v2 w2 hown hgrow; rw [Nat.zero_add, List.nil_append] at hown; obtain ⟨g, capm, hgw, rfl⟩ := own_formV hown (by omega); have HB2 := Lib.hid ((((Below.refl w.heap.size w).alloc (Nat.le_refl _) (.cells #[] 32))).grown hgrow (le_alloc (Nat.le_refl _) _) (fun k hk => by cases hk; exact Nat.le_refl _)); clear FL FG) | (go_at_call 59; refine (HFI.out _ _ (HV.out.now HB2.out)).mono ?_; rintro e w3 ⟨rfl, b3⟩; have HB3 := Lib.hid (HB2.out.trans (b3.mono HB2.out.size)); have c2 := (HB3.out.cell (p := ⟨b, off + k * 4 + 2, none⟩) hb).trans Q2.out; have HO3 := Lib.hid (ownV_later hown b3); have d2 : w3.cell? ⟨g, k * 4 + 2, none⟩ = some (.int .i64 (l[k].2.2.1)) := (HO3.out.cellAt (k * 4 + 2) (by omega)).trans HAT.out; have f2 := HO3.out.frozenAt (k * 4 + 2); have HO5 : Hid ((w3.setCell ⟨g, k * 4 + 2, none⟩ (.int .i64 t)).ownsRow w.heap.size 32 4 (.slice (some ⟨g, 0, none⟩) l.length capm) l.length (row_Listed m)) := Lib.hid (by rw [← HM.out]; exact (HO3.out.stored _ _).1); have HB5 := Lib.hid (HB3.out.setCell (p := ⟨g, k * 4 + 2, none⟩) hgw (.int .i64 t)); clear b3) | (go_at_call 22; refine (HIS.out _ _ (reads_Listed_own HO5.out hml.symm (by omega))).mono ?_; rintro e w6 ⟨rfl, b6⟩; have HB6 := Lib.hid (HB5.out.trans (b6.mono HB5.out.size)); have HO6 := Lib.hid (ownV_later HO5.out b6); clear b6) | (at_builtin; refine appendV_reads _ rfl _ _ 24 rfl w6.heap.size 32 i0 (.agg #[.string ⟨#[]⟩, .int .i64 0, .int .i64 0, .int .i64 0]) 4 40 Try.underlying24 hi hz0 hz1 hz2 rfl (by decide) _ _ _ rfl (own_emptyV w6 32 4) _ l.length cap (row_Listed l) rfl HLEN.out HONE.out HNIL.out (srcV (HV.out.now HB6.out) _) (by omega) (by omega) (le_alloc (Nat.le_refl _) _) ?_; intro v7 w7 hown hgrow))
      rw [Nat.zero_add, List.nil_append] at hown
      have HB7 := Lib.hid ((HB6.out.alloc HB6.out.size (.cells #[] 32)).grown hgrow (le_alloc HB6.out.size _) (fun k hk => by cases hk; exact HB6.out.size))
      have HO7 := Lib.hid (own_wideV hown HB6.out.size)
      clear hown hgrow
      go_ret2
      exact ⟨_, by rw [HE2.out]; rfl, by rw [HE2.out]; exact HO7.out, HB7.out⟩
theorem send_any (l : List (ByteArray × Int × Int × Int)) (x : ByteArray) (t : Int) (hl : l.length ≤ 1048576) (v : Value) (w : World) (hv : ReadsListed w.heap.size w v l) :
    Calls Try.prog 34 #[v, .string x, .int .i64 t] w fun e w' => ∃ v', e = .returned (.tuple #[v', .bool (endW l x t).2]) ∧ w'.ownsRow w.heap.size 32 4 v' (endW l x t).1.length (row_Listed (endW l x t).1) ∧ Below w.heap.size w w' := by
  rcases findL_range l x with e | ⟨k, hk, e⟩
  · exact send_none l x t hl v w hv e
  · by_cases hut : (l.getD k none_Listed).2.2.1 < t
    · exact send_early l x t hl v w hv k hk e hut
    · exact send_set l x t hl v w hv k hk e hut
end Go.Proofs.Ytcpojeiciaghmaa
