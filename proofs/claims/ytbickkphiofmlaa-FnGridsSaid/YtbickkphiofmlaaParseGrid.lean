/-
  The model's contract of ParseGrid.
-/
import Derived.Test.YtbickkphiofmlaaGridText
namespace Go.Proofs.Ytbickkphiofmlaa
open Go.RowKit

/-- ParseGrid's loop behind k bytes: lines, columns, cells. -/
def pst (s : List UInt8) : Nat → Nat × Nat × List UInt8
  | 0 => (1, 0, [])
  | k + 1 => if s.getD k 0 = 47 then ((pst s k).1 + 1, (pst s k).2.1, (pst s k).2.2) else ((pst s k).1, (if (pst s k).1 = 1 then k + 1 else (pst s k).2.1), (pst s k).2.2 ++ [s.getD k 0])
def gridP (s : ByteArray) : Int × Int × ByteArray := (((pst s.data.toList s.size).1 : Int), ((pst s.data.toList s.size).2.1 : Int), ⟨(pst s.data.toList s.size).2.2.toArray⟩)
def okP (s : ByteArray) : Bool := decide (textG (gridP s) = s) && isG (gridP s)
/-- What ParseGrid answers. -/
def parseG (s : ByteArray) : (Int × Int × ByteArray) × Bool := if okP s = true then (gridP s, true) else ((0, 0, ⟨#[]⟩), false)

set_option maxHeartbeats 1600000 in
theorem sparseg_any (s : ByteArray) (hs : s.size ≤ 1048576) (w : World) :
    Calls Try.prog 28 #[.string s] w fun e w' => e = .returned (.tuple #[aggG (parseG s).1, .bool (parseG s).2]) ∧ Below w.heap.size w w' := by
  have HZ1 : Hid (((w.alloc (.cells #[.int .i64 0, .int .i64 0, .string ⟨#[]⟩] 25)).alloc (.cells #[.int .i64 1, .int .i64 0, .string ⟨#[]⟩] 25)).heap[w.heap.size]? = some (.cells #[.int .i64 0, .int .i64 0, .string ⟨#[]⟩] 25)) := Lib.hid ((box33 (Below.refl _ _)).1)
  have HG1 : Hid (((w.alloc (.cells #[.int .i64 0, .int .i64 0, .string ⟨#[]⟩] 25)).alloc (.cells #[.int .i64 1, .int .i64 0, .string ⟨#[]⟩] 25)).heap[w.heap.size + 1]? = some (.cells #[.int .i64 1, .int .i64 0, .string ⟨#[]⟩] 25)) := Lib.hid ((box33 (Below.refl _ _)).2.1)
  have HB1 : Hid (Below w.heap.size w ((w.alloc (.cells #[.int .i64 0, .int .i64 0, .string ⟨#[]⟩] 25)).alloc (.cells #[.int .i64 1, .int .i64 0, .string ⟨#[]⟩] 25))) := Lib.hid ((box33 (Below.refl _ _)).2.2)
  have HPA : Hid (okP s = true → parseG s = (gridP s, true)) := Lib.hid (fun h => by unfold parseG; rw [h]; rfl)
  have HPB : Hid (okP s = false → parseG s = ((0, 0, ⟨#[]⟩), false)) := Lib.hid (fun h => by unfold parseG; rw [h]; rfl)
  go_enter Try.func28, Try.ntmps28
  go_wp2_with fail
  obtain ⟨W1, hW1⟩ : ∃ W1, W1 = (w.alloc (.cells #[.int .i64 0, .int .i64 0, .string ⟨#[]⟩] 25)).alloc (.cells #[.int .i64 1, .int .i64 0, .string ⟨#[]⟩] 25) := ⟨_, rfl⟩
  rw [← hW1] at HZ1 HG1 HB1 ⊢
  clear hW1
  go_loopw [5] (fun i wr => ∃ (k : Nat) (t : ByteArray) (r c : Nat), k ≤ s.size ∧ i = .int .i64 k ∧ Hid (pst s.data.toList k = (r, c, t.data.toList)) ∧ 1 ≤ r ∧ r ≤ k + 1 ∧ c ≤ k ∧ t.size ≤ k ∧ Hid (wr.heap[w.heap.size]? = some (.cells #[.int .i64 0, .int .i64 0, .string ⟨#[]⟩] 25)) ∧ Hid (wr.heap[w.heap.size + 1]? = some (.cells #[.int .i64 r, .int .i64 c, .string t] 25)) ∧ Hid (Below w.heap.size w wr)) (fun i _ => s.size - (intOf i).toNat)
  case atStart => exact ⟨0, ⟨#[]⟩, 1, 0, Nat.zero_le _, rfl, Lib.hid rfl, by decide, by decide, by decide, by decide, HZ1, HG1, HB1⟩
  case round =>
    obtain ⟨k, t, r, c, hk, rfl, HP, hr1, hr2, hc, ht, HZ, HG, HB⟩ := hrel
    by_cases hlt : k < s.size
    · obtain ⟨c0, c1, c2, f0, f1, f2⟩ := cells3 HG.out
      have HGD := Lib.hid (getD_byte s k hlt)
      have HNX : Hid (pst s.data.toList (k + 1) = if s[k] = 47 then (r + 1, c, t.data.toList) else (r, (if r = 1 then k + 1 else c), t.data.toList ++ [s[k]])) := Lib.hid (by rw [pst, HP.out, HGD.out])
      have HSN := Lib.hid (snoc_list s t k hlt)
      by_cases h47 : s[k] = 47
      · have hq : ((s[k].toNat : Int) == 47) = true := by simp [h47]
        have hr3 : ((r : Int) + 1 == 1) = false := by simp; omega
        have HNX2 : Hid (pst s.data.toList (k + 1) = (r + 1, c, t.data.toList)) := Lib.hid (by rw [HNX.out, if_pos h47])
        clear h47
        go_wp2
        go_roundw
        case rel => exact ⟨k + 1, t, r + 1, c, by omega, by go_num, HNX2, by omega, by omega, by omega, by omega, Lib.hid ((Below.heap_setCell _ _ _ _ (by simp)).trans HZ.out), Lib.hid (by have h9 := Joins.block_setCell (i := 0) HG.out (.int .i64 ((r : Int) + 1)); exact h9), Lib.hid (HB.out.setCell (p := ⟨w.heap.size + 1, 0, none⟩) (by simp) _)⟩
        case measure => simp [intOf]; omega
      · have hq : ((s[k].toNat : Int) == 47) = false := by simp; intro h; exact h47 (UInt8.toNat_inj.1 (by show s[k].toNat = 47; omega))
        by_cases hr : r = 1
        · have hr3 : ((r : Int) == 1) = true := by simp; omega
          have HNX2 : Hid (pst s.data.toList (k + 1) = (r, k + 1, (t ++ s.extract k (k + 1)).data.toList)) := Lib.hid (by rw [HNX.out, if_neg h47, if_pos hr, HSN.out])
          have hts : (t ++ s.extract k (k + 1)).size ≤ k + 1 := by rw [← size_list, HSN.out, List.length_append, size_list]; simp; omega
          clear h47 hr
          go_wp2
          go_region
          go_wp2
          go_roundw
          case rel => exact ⟨k + 1, t ++ s.extract k (k + 1), r, k + 1, by omega, by go_num, HNX2, by omega, by omega, by omega, hts, Lib.hid ((Below.heap_setCell _ _ _ _ (by simp)).trans ((Below.heap_setCell _ _ _ _ (by simp)).trans HZ.out)), Lib.hid (by have h9 := Joins.block_setCell (i := 1) (Joins.block_setCell (i := 2) HG.out (.string (t ++ s.extract k (k + 1)))) (.int .i64 ((k : Int) + 1)); exact h9), Lib.hid (((HB.out.setCell (p := ⟨w.heap.size + 1, 2, none⟩) (by simp) _).setCell (p := ⟨w.heap.size + 1, 1, none⟩) (by simp) _).drew)⟩
          case measure => simp [intOf]; omega
        · have hr3 : ((r : Int) == 1) = false := by simp; omega
          have HNX2 : Hid (pst s.data.toList (k + 1) = (r, c, (t ++ s.extract k (k + 1)).data.toList)) := Lib.hid (by rw [HNX.out, if_neg h47, if_neg hr, HSN.out])
          have hts : (t ++ s.extract k (k + 1)).size ≤ k + 1 := by rw [← size_list, HSN.out, List.length_append, size_list]; simp; omega
          clear h47 hr
          go_wp2
          go_region
          go_wp2
          go_roundw
          case rel => exact ⟨k + 1, t ++ s.extract k (k + 1), r, c, by omega, by go_num, HNX2, by omega, by omega, by omega, hts, Lib.hid ((Below.heap_setCell _ _ _ _ (by simp)).trans HZ.out), Lib.hid (by have h9 := Joins.block_setCell (i := 2) HG.out (.string (t ++ s.extract k (k + 1))); exact h9), Lib.hid ((HB.out.setCell (p := ⟨w.heap.size + 1, 2, none⟩) (by simp) _).drew)⟩
          case measure => simp [intOf]; omega
    · obtain ⟨e0, e1, e2, x0, x1, x2⟩ := cells3 HG.out
      have hk' : k = s.size := by omega
      have HGP : Hid (gridP s = ((r : Int), (c : Int), t)) := Lib.hid (by have h9 := HP.out; rw [hk'] at h9; unfold gridP; rw [h9])
      have HTXT := Lib.hid (fun w => stext_any (r : Int) (c : Int) t (by omega) w)
      have HISG := Lib.hid (fun w => sisg_any (r : Int) (c : Int) t (by omega) w)
      have HOK : Hid (okP s = (decide (textG ((r : Int), (c : Int), t) = s) && isG ((r : Int), (c : Int), t))) := Lib.hid (by unfold okP; rw [HGP.out])
      obtain ⟨x, hx⟩ : ∃ x, x = textG ((r : Int), (c : Int), t) := ⟨_, rfl⟩
      obtain ⟨b, hb⟩ : ∃ b, b = isG ((r : Int), (c : Int), t) := ⟨_, rfl⟩
      rw [← hx] at HTXT HOK
      rw [← hb] at HISG HOK
      clear hx hb hk' HP
      by_cases he : x = s
      · cases b with
        | true =>
          have HF := Lib.hid (HPA.out (by rw [HOK.out, decide_eq_true he]; rfl))
          rw [HGP.out] at HF
          clear HPA HPB HOK
          subst he
          go_wp2_with (first | (go_at_call 27; refine (HTXT.out _).mono ?_; rintro e w2 ⟨rfl, b2⟩; have HB2 := Lib.hid (HB.out.trans (b2.mono HB.out.size)); have HG2 := Lib.hid ((b2.block (w.heap.size + 1) (size_of_heap HG.out)).trans HG.out); have HZ2 := Lib.hid ((b2.block w.heap.size (size_of_heap HZ.out)).trans HZ.out); obtain ⟨c0, c1, c2, f0, f1, f2⟩ := cells3 HG2.out; obtain ⟨z0, z1, z2, y0, y1, y2⟩ := cells3 HZ2.out; clear b2) | (go_at_call 15; refine (HISG.out _).mono ?_; rintro e w3 ⟨rfl, b3⟩; have HB3 := Lib.hid (HB2.out.trans (b3.mono HB2.out.size)); have HG3 := Lib.hid ((b3.block (w.heap.size + 1) (size_of_heap HG2.out)).trans HG2.out); have HZ3 := Lib.hid ((b3.block w.heap.size (size_of_heap HZ2.out)).trans HZ2.out); obtain ⟨c0', c1', c2', f0', f1', f2'⟩ := cells3 HG3.out; obtain ⟨z0', z1', z2', y0', y1', y2'⟩ := cells3 HZ3.out; clear b3))
          exact bodyPost_ret (v := .tuple #[.agg #[.int .i64 r, .int .i64 c, .string t], .bool true]) (by simp [results, Try.results28, go_sem, z0', z1', z2']) rfl ⟨by rw [HF.out]; rfl, (((HB3.out.setCell (p := ⟨w.heap.size, 0, none⟩) (by simp) _).setCell (p := ⟨w.heap.size, 1, none⟩) (by simp) _).setCell (p := ⟨w.heap.size, 2, none⟩) (by simp) _)⟩
        | false =>
          have HF := Lib.hid (HPB.out (by rw [HOK.out]; simp))
          clear HPA HPB HOK
          subst he
          go_wp2_with (first | (go_at_call 27; refine (HTXT.out _).mono ?_; rintro e w2 ⟨rfl, b2⟩; have HB2 := Lib.hid (HB.out.trans (b2.mono HB.out.size)); have HG2 := Lib.hid ((b2.block (w.heap.size + 1) (size_of_heap HG.out)).trans HG.out); have HZ2 := Lib.hid ((b2.block w.heap.size (size_of_heap HZ.out)).trans HZ.out); obtain ⟨c0, c1, c2, f0, f1, f2⟩ := cells3 HG2.out; obtain ⟨z0, z1, z2, y0, y1, y2⟩ := cells3 HZ2.out; clear b2) | (go_at_call 15; refine (HISG.out _).mono ?_; rintro e w3 ⟨rfl, b3⟩; have HB3 := Lib.hid (HB2.out.trans (b3.mono HB2.out.size)); have HG3 := Lib.hid ((b3.block (w.heap.size + 1) (size_of_heap HG2.out)).trans HG2.out); have HZ3 := Lib.hid ((b3.block w.heap.size (size_of_heap HZ2.out)).trans HZ2.out); obtain ⟨c0', c1', c2', f0', f1', f2'⟩ := cells3 HG3.out; obtain ⟨z0', z1', z2', y0', y1', y2'⟩ := cells3 HZ3.out; clear b3))
          exact bodyPost_ret (v := .tuple #[.agg #[.int .i64 0, .int .i64 0, .string ⟨#[]⟩], .bool false]) (by simp [results, Try.results28, go_sem, z0', z1', z2']) rfl ⟨by rw [HF.out]; rfl, (((HB3.out.setCell (p := ⟨w.heap.size, 0, none⟩) (by simp) _).setCell (p := ⟨w.heap.size, 1, none⟩) (by simp) _).setCell (p := ⟨w.heap.size, 2, none⟩) (by simp) _)⟩
      · have hne := toList_ne he
        have HF := Lib.hid (HPB.out (by rw [HOK.out, decide_eq_false he]; rfl))
        clear HPA HPB HOK he
        go_wp2_with (first | (go_at_call 27; refine (HTXT.out _).mono ?_; rintro e w2 ⟨rfl, b2⟩; have HB2 := Lib.hid (HB.out.trans (b2.mono HB.out.size)); have HG2 := Lib.hid ((b2.block (w.heap.size + 1) (size_of_heap HG.out)).trans HG.out); have HZ2 := Lib.hid ((b2.block w.heap.size (size_of_heap HZ.out)).trans HZ.out); obtain ⟨c0, c1, c2, f0, f1, f2⟩ := cells3 HG2.out; obtain ⟨z0, z1, z2, y0, y1, y2⟩ := cells3 HZ2.out; clear b2) | (go_at_call 15; refine (HISG.out _).mono ?_; rintro e w3 ⟨rfl, b3⟩; have HB3 := Lib.hid (HB2.out.trans (b3.mono HB2.out.size)); have HG3 := Lib.hid ((b3.block (w.heap.size + 1) (size_of_heap HG2.out)).trans HG2.out); have HZ3 := Lib.hid ((b3.block w.heap.size (size_of_heap HZ2.out)).trans HZ2.out); obtain ⟨c0', c1', c2', f0', f1', f2'⟩ := cells3 HG3.out; obtain ⟨z0', z1', z2', y0', y1', y2'⟩ := cells3 HZ3.out; clear b3))
        exact bodyPost_ret (v := .tuple #[.agg #[.int .i64 0, .int .i64 0, .string ⟨#[]⟩], .bool false]) (by simp [results, Try.results28, go_sem, z0, z1, z2]) rfl ⟨by rw [HF.out]; rfl, (((HB2.out.setCell (p := ⟨w.heap.size, 0, none⟩) (by simp) _).setCell (p := ⟨w.heap.size, 1, none⟩) (by simp) _).setCell (p := ⟨w.heap.size, 2, none⟩) (by simp) _)⟩
end Go.Proofs.Ytbickkphiofmlaa
