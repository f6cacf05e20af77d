/-
  The program's contracts of chapter 8, fourth part: readLine.
-/
import Derived.Test.YtdhjgaadfofkkaaDoorSlotImplC
namespace Go.Proofs.YtdhjgaadfofkkaaDoor
open Go.RowKit

/-- The finder's state: how many white cells, the first one, the length, the slots found. -/
abbrev FM := Int × Int × Int × List SlotV
def fend (dn : Bool) (m : FM) : FM := (0, m.2.1, m.2.2.1, if m.1 = 2 then m.2.2.2 ++ [(0, dn, m.2.1, m.2.2.1)] else m.2.2.2)
def fext (cell : Int) (m : FM) : FM := if m.1 = 0 then (1, cell, 1, m.2.2.2) else (2, m.2.1, m.2.2.1 + 1, m.2.2.2)
def fstep (dn : Bool) (cell : Int) (wh : Bool) (m : FM) : FM := if wh = true then fext cell m else fend dn m
def frun (dn : Bool) (wb : Int → Bool) (cells : List Int) (m : FM) : FM := cells.foldl (fun m cell => fstep dn cell (wb cell) m) m
def Fok (k l0 : Nat) (m : FM) : Prop := (m.1 = 0 ∨ ((m.1 = 1 ∨ m.1 = 2) ∧ 0 ≤ m.2.2.1 ∧ m.2.2.1 ≤ (k : Int))) ∧ m.2.2.2.length ≤ l0 + k
theorem fext_ok {k l0 : Nat} {m : FM} (h : Fok k l0 m) (cell : Int) : Fok (k + 1) l0 (fext cell m) := by
  obtain ⟨h1, h2⟩ := h
  unfold fext
  split
  · exact ⟨.inr ⟨.inl rfl, by simp, by simp; omega⟩, by show m.2.2.2.length ≤ _; omega⟩
  · rename_i h0
    rcases h1 with h1 | ⟨-, h3, h4⟩
    · exact absurd h1 h0
    · exact ⟨.inr ⟨.inr rfl, by simp; omega, by simp; omega⟩, by show m.2.2.2.length ≤ _; omega⟩
theorem fend_ok {k l0 : Nat} {m : FM} (h : Fok k l0 m) (dn : Bool) : Fok (k + 1) l0 (fend dn m) := by
  obtain ⟨h1, h2⟩ := h
  unfold fend
  refine ⟨.inl rfl, ?_⟩
  show (if m.1 = 2 then _ else _ : List SlotV).length ≤ _
  split
  · rw [List.length_append, List.length_singleton]; omega
  · omega
/-- The finder lies in block B in the state m, its row is the call's own. -/
def StM (W : World) (B base : Nat) (dn : Bool) (m : FM) : Prop := ∃ v, FindB W B m.1 dn m.2.1 m.2.2.1 v ∧ W.ownsRow base 33 4 v m.2.2.2.length (row_Slot m.2.2.2) ∧ v ≠ .slice none 0 0
theorem StM.later {W W' : World} {B base : Nat} {dn : Bool} {m : FM} (h : StM W B base dn m) (hb : Below W.heap.size W W') : StM W' B base dn m := by
  obtain ⟨v, h1, h2, h3⟩ := h
  exact ⟨v, (hb.block B (Array.getElem?_eq_some_iff.1 h1).1).trans h1, ownV_later h2 hb, h3⟩
theorem iext_any (B base : Nat) (dn : Bool) (m : FM) (cell : Int) (k l0 : Nat) (hk : k ≤ 50) (hm : Fok k l0 m) (w : World) (hbB : base ≤ B) (h : StM w B base dn m) (hbase : base ≤ w.heap.size) :
    Calls Tryd.prog 62 #[.pointer (some ⟨B, 0, none⟩), .int .i64 cell] w fun e w' => (∃ r, e = .returned r) ∧ StM w' B base dn (fext cell m) ∧ Below base w w' ∧ KeepT B w w' := by
  obtain ⟨v, h1, h2, h3⟩ := h
  obtain ⟨st, cl, ln, L⟩ := m
  by_cases h0 : st = 0
  · subst h0
    refine (iext0_any B dn cl ln cell v w h1).mono ?_
    rintro e w' ⟨he, hf, hg⟩
    exact ⟨he, ⟨v, hf, h2.kept hg (own_not_find h2 h1), h3⟩, below_grownB hg hbB hbase, keepT_grown hg⟩
  · have hst : (st == 0) = false := by simpa using h0
    have hln : 0 ≤ ln ∧ ln ≤ (k : Int) := by
      rcases hm.1 with e | ⟨-, e⟩
      · exact absurd e h0
      · exact e
    refine (iext1_any B st dn cl ln cell v hst hln.1 (by omega) w h1).mono ?_
    rintro e w' ⟨he, hf, hg⟩
    refine ⟨he, ?_, below_grownB hg hbB hbase, keepT_grown hg⟩
    have e9 : fext cell (st, cl, ln, L) = (2, cl, ln + 1, L) := if_neg h0
    rw [e9]
    exact ⟨v, hf, h2.kept hg (own_not_find h2 h1), h3⟩
theorem ifend_any (B base : Nat) (dn : Bool) (m : FM) (hl : m.2.2.2.length ≤ 1000) (w : World) (hbB : base ≤ B) (h : StM w B base dn m) (hbase : base ≤ w.heap.size) :
    Calls Tryd.prog 63 #[.pointer (some ⟨B, 0, none⟩)] w fun e w' => (∃ r, e = .returned r) ∧ StM w' B base dn (fend dn m) ∧ Below base w w' ∧ KeepT B w w' := by
  obtain ⟨v, h1, h2, h3⟩ := h
  obtain ⟨st, cl, ln, L⟩ := m
  by_cases h0 : st = 2
  · subst h0
    refine (iend2_any B base dn cl ln v L hl w h1 h2 hbase hbB).mono ?_
    rintro e w' ⟨he, v', hf, ho, hb, hk⟩
    refine ⟨he, ⟨v', hf, ho, fun e9 => ?_⟩, hb, hk⟩
    subst e9
    have h9 : (L ++ [((0 : Int), dn, cl, ln)]).length = 0 := by
      rcases ho.2 with ⟨-, e⟩ | ⟨g, cap, cur, e, -⟩
      · exact e
      · cases e
    simp at h9
  · have hst : (st == 2) = false := by simpa using h0
    refine (iend0_any B st dn cl ln v hst w h1).mono ?_
    rintro e w' ⟨he, hf, hg⟩
    refine ⟨he, ?_, below_grownB hg hbB hbase, keepT_grown hg⟩
    have e9 : fend dn (st, cl, ln, L) = (0, cl, ln, L) := by unfold fend; rw [if_neg h0]
    rw [e9]
    exact ⟨v, hf, h2.kept hg (own_not_find h2 h1), h3⟩
theorem frun_next (dn : Bool) (wb : Int → Bool) (l : List Int) (m : FM) (k : Nat) (h : k < l.length) : frun dn wb (l.take (k + 1)) m = fstep dn (l.getD k 0) (wb (l.getD k 0)) (frun dn wb (l.take k) m) := by
  unfold frun
  rw [List.take_succ_eq_append_getElem h, List.foldl_append, List.getD_eq_getElem?_getD, List.getElem?_eq_getElem h]
  rfl
theorem fstep_ok {k l0 : Nat} {m : FM} (h : Fok k l0 m) (dn : Bool) (cell : Int) (wh : Bool) : Fok (k + 1) l0 (fstep dn cell wh m) := by
  unfold fstep
  split
  · exact fext_ok h cell
  · exact fend_ok h dn
theorem frun_ok (dn : Bool) (wb : Int → Bool) (l : List Int) (m : FM) (l0 : Nat) (h : Fok 0 l0 m) : ∀ k, k ≤ l.length → Fok k l0 (frun dn wb (l.take k) m)
  | 0, _ => by unfold frun; simpa using h
  | k + 1, hk => by
    rw [frun_next dn wb l m k (by omega)]
    exact fstep_ok (frun_ok dn wb l m l0 h k (by omega)) dn _ _
theorem stepL_getD (f st : Int) (n k : Nat) (h : k < n) : (stepL f st n).getD k 0 = f + (k : Int) * st := by
  unfold stepL
  rw [List.getD_eq_getElem?_getD, List.getElem?_map, List.getElem?_range h]
  rfl
theorem own_keepT {W W' : World} {B base base' n s : Nat} {e : TypeId} {v : Value} {xs : List Value} {dn : Bool} {m : FM} (h : W.ownsRow base e s v n xs) (he : e ≠ 33) (he2 : e ≠ 75) (hf : StM W B base' dn m) (hk : KeepT B W W') : W'.ownsRow base e s v n xs := by
  refine ⟨h.1, ?_⟩
  rcases h.2 with hn | ⟨g, cap, cur, rfl, hb, hg, rest⟩
  · exact .inl hn
  · refine .inr ⟨g, cap, cur, rfl, hb, hk g _ _ _ (fun e9 => ?_) he hg, rest⟩
    subst e9
    obtain ⟨u, h1, -⟩ := hf
    unfold FindB at h1
    rw [hg] at h1
    cases h1
    exact he2 rfl
theorem block_keepT {W W' : World} {B base C : Nat} {x : Array Value} {T : TypeId} {mk : Nat × Nat} {dn : Bool} {m : FM} (h : W.heap[C]? = some (.cells x T mk)) (he : T ≠ 33) (he2 : T ≠ 75) (hf : StM W B base dn m) (hk : KeepT B W W') : W'.heap[C]? = some (.cells x T mk) := by
  refine hk C _ _ _ (fun e9 => ?_) he h
  subst e9
  obtain ⟨u, h1, -⟩ := hf
  unfold FindB at h1
  rw [h] at h1
  cases h1
  exact he2 rfl
set_option maxRecDepth 100000 in
set_option maxHeartbeats 1600000 in
theorem iread_any (B base : Nat) (dn : Bool) (m : FM) (hm0 : m.1 = 0) (hml : m.2.2.2.length ≤ 100) (r c : Int) (N S : Nat) (hN : r * c = (N : Int)) (h36 : N ≤ 36) (hS : S < 18446744073709551616) (f st : Int) (n : Nat) (hn : 1 ≤ n) (hn6 : n ≤ 6) (hf : 0 ≤ f) (hf2 : f ≤ 36) (hs : 0 ≤ st) (hs2 : st ≤ 6) (w : World) (hbB : base ≤ B) (h : StM w B base dn m) (hbase : base ≤ w.heap.size) :
    Calls Tryd.prog 44 #[.pointer (some ⟨B, 0, none⟩), .agg #[.int .i64 r, .int .i64 c, .int .u64 (S : Int)], .agg #[.int .i64 f, .int .i64 st, .int .i64 (n : Int)]] w fun e w' => (∃ r, e = .returned r) ∧ StM w' B base dn (fend dn (frun dn (whB N S) (stepL f st n) m)) ∧ Below base w w' ∧ KeepT B w w' := by
  have HIW := Lib.hid (fun k w => ibw_any r c N S hN h36 hS k w)
  have HCE := Lib.hid (fun w => icells_any f st n hn hn6 hf hf2 hs hs2 w)
  have hb2 := below2 w (.cells #[.int .i64 r, .int .i64 c, .int .u64 (S : Int)] 50) (.cells #[.int .i64 f, .int .i64 st, .int .i64 (n : Int)] 83)
  have HOK := Lib.hid (frun_ok dn (whB N S) (stepL f st n) m m.2.2.2.length ⟨.inl hm0, by omega⟩)
  have HBX := Lib.hid (box33 (Below.refl _ ((w.alloc (.cells #[.int .i64 r, .int .i64 c, .int .u64 (S : Int)] 50)).alloc (.cells #[.int .i64 f, .int .i64 st, .int .i64 (n : Int)] 83))))
  obtain ⟨W0, hW0⟩ : ∃ W0, W0 = (w.alloc (.cells #[.int .i64 r, .int .i64 c, .int .u64 (S : Int)] 50)).alloc (.cells #[.int .i64 f, .int .i64 st, .int .i64 (n : Int)] 83) := ⟨_, rfl⟩
  have hws : W0.heap.size = w.heap.size + 2 := by rw [hW0]; simp
  have HS0 : Hid (StM W0 B base dn m) := Lib.hid (by rw [hW0]; exact h.later hb2)
  have HW : Hid (Below w.heap.size w W0) := Lib.hid (by rw [hW0]; exact hb2)
  have hBw : B < w.heap.size := by
    obtain ⟨v, h1, -⟩ := h
    exact (Array.getElem?_eq_some_iff.1 h1).1
  clear hb2 h hN
  go_enter Tryd.func44, Tryd.ntmps44
  obtain ⟨x0, x1, x2, -, -, -⟩ := cells3 HBX.out.1
  obtain ⟨y0, y1, y2, -, -, -⟩ := cells3 HBX.out.2.1
  go_wp2_with fail
  rw [← hW0] at HBX x0 x1 x2 y0 y1 y2 ⊢
  clear hW0
  have HKP : Hid (∀ W : World, W.heap[w.heap.size]? = some (.cells #[.int .i64 r, .int .i64 c, .int .u64 (S : Int)] 50) → W.cell? ⟨w.heap.size, 0, none⟩ = some (.int .i64 r) ∧ W.cell? ⟨w.heap.size, 1, none⟩ = some (.int .i64 c) ∧ W.cell? ⟨w.heap.size, 2, none⟩ = some (.int .u64 (S : Int))) := Lib.hid (fun W h => ⟨Joins.cell_of_block h 0, Joins.cell_of_block h 1, Joins.cell_of_block h 2⟩)
  go_wp2_with (go_at_call 50; refine (HCE.out _).mono ?_; rintro e w2 ⟨v2, rfl, o2, b2⟩; obtain ⟨a0, cap, rfl⟩ := ownV_slice o2; have HO2 := Lib.hid (own_widen o2 (show w.heap.size ≤ W0.heap.size by omega)); have HB2 := Lib.hid (HW.out.trans (b2.mono HW.out.size)); have HS2 := Lib.hid (HS0.out.later b2); have HX2 := Lib.hid ((b2.block w.heap.size (by omega)).trans HBX.out.1); clear o2 b2)
  have HB2' : Hid (Below base w w2) := Lib.hid (HB2.out.mono hbase)
  have HK2 : Hid (KeepT B w w2) := Lib.hid (keepT_below HB2.out)
  clear HB2
  go_loopw [11] (fun i wr => ∃ k : Nat, k ≤ n ∧ i = .int .i64 k ∧ Hid (StM wr B base dn (frun dn (whB N S) ((stepL f st n).take k) m)) ∧ Hid (wr.ownsRow w.heap.size 3 1 (.slice a0 n cap) n ((stepL f st n).map (Value.int .i64))) ∧ Hid (wr.heap[w.heap.size]? = some (.cells #[.int .i64 r, .int .i64 c, .int .u64 (S : Int)] 50)) ∧ Hid (Below base w wr) ∧ Hid (KeepT B w wr)) (fun i _ => n - (intOf i).toNat)
  case atStart => exact ⟨0, Nat.zero_le _, rfl, Lib.hid (by simpa [frun] using HS2.out), HO2, HX2, HB2', HK2⟩
  case round =>
    obtain ⟨k, hk, rfl, HS, HO, HX, HB, HK⟩ := hrel
    by_cases hlt : k < n
    · have hd : decide ((k : Int) < (n : Int)) = true := decide_eq_true (by omega)
      have hd9 : decide (k < n) = true := decide_eq_true hlt
      have HNX := Lib.hid (frun_next dn (whB N S) (stepL f st n) m k (by rw [stepL_length]; exact hlt))
      have HOKk := Lib.hid (HOK.out k (by rw [stepL_length]; omega))
      obtain ⟨b, off, rfl, c0⟩ : ∃ b off, a0 = some ⟨b, off, none⟩ ∧ wr.cell? ⟨b, off + k, none⟩ = some (.int .i64 ((stepL f st n).getD k 0)) := by
        obtain ⟨-, a9, c9, e9, -, h9⟩ := reads_own (l := stepL f st n) HO.out (by rw [stepL_length]) (by rw [stepL_length]; omega)
        obtain ⟨rfl, -, -⟩ := Value.slice.inj e9
        obtain ⟨b, off, e8, -, h8⟩ := h9 k (by rw [stepL_length]; exact hlt)
        exact ⟨b, off, e8, h8⟩
      obtain ⟨x, hx⟩ : ∃ x, x = (stepL f st n).getD k 0 := ⟨_, rfl⟩
      rw [← hx] at c0 HNX
      obtain ⟨q, hq⟩ : ∃ q, q = whB N S x := ⟨_, rfl⟩
      have HQ := Lib.hid (HIW.out x)
      rw [← hq] at HQ HNX
      obtain ⟨M, hM⟩ : ∃ M, M = frun dn (whB N S) ((stepL f st n).take k) m := ⟨_, rfl⟩
      rw [← hM] at HS HNX HOKk
      obtain ⟨z0, z1, z2⟩ := HKP.out _ HX.out
      clear hx hq hM x0 x1 x2 y0 y1 y2 HS2 HO2 HX2 HB2' HK2
      cases q with
      | true =>
        have HN2 : Hid (frun dn (whB N S) ((stepL f st n).take (k + 1)) m = fext x M) := Lib.hid (by rw [HNX.out]; rfl)
        go_wp2_with (first | (go_at_call 32; refine (HQ.out _).mono ?_; rintro e w3 ⟨rfl, b3⟩; have HS3 := Lib.hid (HS.out.later b3); have HO3 := Lib.hid (ownV_later HO.out b3); have HX3 := Lib.hid ((b3.block w.heap.size (Array.getElem?_eq_some_iff.1 HX.out).1).trans HX.out); have HB3 := Lib.hid (HB.out.trans (b3.mono (Nat.le_trans hbase HB.out.size))); have HK3 := Lib.hid (HK.out.trans (keepT_below b3)); have HZ3 := Lib.hid (Nat.le_trans hbase HB3.out.size); clear b3) | (go_at_call 62; refine (iext_any B base dn M x k m.2.2.2.length (by omega) HOKk.out _ hbB HS3.out HZ3.out).mono ?_; rintro e w4 ⟨⟨r, rfl⟩, hs4, hb4, hk4⟩; have HS4 := Lib.hid hs4; have HO4 := Lib.hid (own_keepT HO3.out (by decide) (by decide) HS3.out hk4); have HX4 := Lib.hid (block_keepT HX3.out (by decide) (by decide) HS3.out hk4); have HB4 := Lib.hid (HB3.out.trans hb4); have HK4 := Lib.hid (HK3.out.trans hk4); clear hs4 hb4 hk4))
        go_roundw
        case rel => exact ⟨k + 1, by omega, by go_num, by rw [HN2.out]; exact HS4, HO4, HX4, HB4, HK4⟩
        case measure => simp [intOf]; omega
      | false =>
        have HN2 : Hid (frun dn (whB N S) ((stepL f st n).take (k + 1)) m = fend dn M) := Lib.hid (by rw [HNX.out]; rfl)
        go_wp2_with (first | (go_at_call 32; refine (HQ.out _).mono ?_; rintro e w3 ⟨rfl, b3⟩; have HS3 := Lib.hid (HS.out.later b3); have HO3 := Lib.hid (ownV_later HO.out b3); have HX3 := Lib.hid ((b3.block w.heap.size (Array.getElem?_eq_some_iff.1 HX.out).1).trans HX.out); have HB3 := Lib.hid (HB.out.trans (b3.mono (Nat.le_trans hbase HB.out.size))); have HK3 := Lib.hid (HK.out.trans (keepT_below b3)); have HZ3 := Lib.hid (Nat.le_trans hbase HB3.out.size); clear b3) | (go_at_call 63; refine (ifend_any B base dn M (by have := HOKk.out.2; omega) _ hbB HS3.out HZ3.out).mono ?_; rintro e w4 ⟨⟨r, rfl⟩, hs4, hb4, hk4⟩; have HS4 := Lib.hid hs4; have HO4 := Lib.hid (own_keepT HO3.out (by decide) (by decide) HS3.out hk4); have HX4 := Lib.hid (block_keepT HX3.out (by decide) (by decide) HS3.out hk4); have HB4 := Lib.hid (HB3.out.trans hb4); have HK4 := Lib.hid (HK3.out.trans hk4); clear hs4 hb4 hk4))
        go_roundw
        case rel => exact ⟨k + 1, by omega, by go_num, by rw [HN2.out]; exact HS4, HO4, HX4, HB4, HK4⟩
        case measure => simp [intOf]; omega
    · have hd : decide ((k : Int) < (n : Int)) = false := decide_eq_false (by omega)
      have hd9 : decide (k < n) = false := decide_eq_false hlt
      have HOKk := Lib.hid (HOK.out k (by rw [stepL_length]; omega))
      have HTK : Hid ((stepL f st n).take k = stepL f st n) := Lib.hid (List.take_of_length_le (by rw [stepL_length]; omega))
      rw [HTK.out] at HS HOKk
      have HZ := Lib.hid (Nat.le_trans hbase HB.out.size)
      clear HTK
      go_wp2_with (go_at_call 63; refine (ifend_any B base dn _ (by have := HOKk.out.2; omega) _ hbB HS.out HZ.out).mono ?_; rintro e w4 ⟨⟨r, rfl⟩, hs4, hb4, hk4⟩; have HS4 := Lib.hid hs4; have HB4 := Lib.hid (HB.out.trans hb4); have HK4 := Lib.hid (HK.out.trans hk4); clear hs4 hb4 hk4)
      go_end0
      exact ⟨⟨_, rfl⟩, HS4.out, HB4.out, HK4.out⟩
end Go.Proofs.YtdhjgaadfofkkaaDoor
