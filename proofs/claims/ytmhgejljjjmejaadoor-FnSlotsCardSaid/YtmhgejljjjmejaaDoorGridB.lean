/-
  The model's contract of GridText.
  The model's contract of ParseGrid.
  ParseGrid reads back what GridText writes.
  Plain facts on bit boards: what Reverse64 reckons; the white cells of a grid as a set of bits; the half turn.
-/
import Derived.Test.YtmhgejljjjmejaaDoorGrid
import Derived.Test.YtmhgejljjjmejaaDoorPatB
import Derived.Laws.Bits64b
namespace Go.Proofs.YtmhgejljjjmejaaDoor
open Go.RowKit

/-- The first k lines of a grid's text. -/
def linesG (c : Nat) (s : ByteArray) (k : Nat) : List UInt8 := (List.range k).flatMap fun i => (if i = 0 then [] else [47]) ++ ((s.data.toList.drop (i * c)).take c)
theorem linesG_next (c : Nat) (s : ByteArray) (k : Nat) : linesG c s (k + 1) = linesG c s k ++ ((if k = 0 then [] else [47]) ++ ((s.data.toList.drop (k * c)).take c)) := by
  unfold linesG
  rw [List.range_succ, List.flatMap_append]
  simp
theorem linesG_length (c : Nat) (s : ByteArray) (k : Nat) : (linesG c s k).length ≤ k * (c + 1) := by
  induction k with
  | zero => simp [linesG]
  | succ k ih =>
    rw [linesG_next, List.length_append, List.length_append, List.length_take, Nat.succ_mul]
    have : (if k = 0 then ([] : List UInt8) else [47]).length ≤ 1 := by split <;> simp
    omega
/-- What GridText answers. -/
def textG (g : Int × Int × ByteArray) : ByteArray := if isG g = true then ⟨(linesG g.2.1.toNat g.2.2 g.1.toNat).toArray⟩ else ⟨#[]⟩

set_option maxHeartbeats 1600000 in
theorem stext_any (r c : Int) (s : ByteArray) (hs : s.size ≤ 1048576) (w : World) :
    Calls Tryd.prog 66 #[.agg #[.int .i64 r, .int .i64 c, .string s]] w fun e w' => e = .returned (.string (textG (r, c, s))) ∧ Below w.heap.size w w' := by
  have HIG := Lib.hid (fun w => sisg_any r c s (by omega) w)
  have HTX : Hid (textG (r, c, s) = if isG (r, c, s) = true then ⟨(linesG c.toNat s r.toNat).toArray⟩ else ⟨#[]⟩) := Lib.hid rfl
  obtain ⟨p, hp⟩ : ∃ p, p = isG (r, c, s) := ⟨_, rfl⟩
  rw [← hp] at HIG HTX
  have HBX : Hid (Below w.heap.size w (w.alloc (.cells #[.int .i64 r, .int .i64 c, .string s] 25))) := Lib.hid ((Below.refl _ _).alloc (Nat.le_refl _) _)
  have HKP : Hid (∀ w', Below (w.alloc (.cells #[.int .i64 r, .int .i64 c, .string s] 25)).heap.size (w.alloc (.cells #[.int .i64 r, .int .i64 c, .string s] 25)) w' → w'.cell? ⟨w.heap.size, 0, none⟩ = some (.int .i64 r) ∧ w'.cell? ⟨w.heap.size, 1, none⟩ = some (.int .i64 c) ∧ w'.cell? ⟨w.heap.size, 2, none⟩ = some (.string s)) := Lib.hid (fun w' h => ⟨(box3_keep h).1, (box3_keep h).2.1, (box3_keep h).2.2.1⟩)
  cases p with
  | false =>
    have HF : Hid (textG (r, c, s) = ⟨#[]⟩) := Lib.hid (by rw [HTX.out]; rfl)
    clear HTX hp
    go_enter Tryd.func66, Tryd.ntmps66
    go_wp2
    obtain ⟨W1, hW1⟩ : ∃ W1, W1 = w.alloc (.cells #[.int .i64 r, .int .i64 c, .string s] 25) := ⟨_, rfl⟩
    rw [← hW1] at HBX HKP ⊢
    clear hW1
    go_loopw [3, 4] (fun o i wr => o = .string ⟨#[]⟩ ∧ i = .int .i64 0 ∧ Hid (Below W1.heap.size W1 wr)) (fun _ _ _ => 0)
    case atStart => exact ⟨rfl, rfl, Lib.hid (Below.refl _ _)⟩
    case round =>
      obtain ⟨rfl, rfl, HB⟩ := hrel
      obtain ⟨c0, c1, c2⟩ := HKP.out _ HB.out
      by_cases hr0 : 0 < r
      · go_wp2_with (go_at_call 8; refine (HIG.out _).mono ?_; rintro e w2 ⟨rfl, b2⟩; have HB2 : Hid (Below W1.heap.size W1 w2) := Lib.hid (HB.out.trans (b2.mono HB.out.size)); obtain ⟨d0, d1, d2⟩ := HKP.out _ HB2.out; clear b2)
        go_ret
        exact ⟨by rw [HF.out]; rfl, HBX.out.trans (HB2.out.mono HBX.out.size)⟩
      · go_wp2
        go_ret
        exact ⟨by rw [HF.out]; rfl, HBX.out.trans (HB.out.mono HBX.out.size)⟩
  | true =>
    obtain ⟨⟨hr1, hr2⟩, ⟨hc1, hc2⟩, hz, -⟩ := of_decide_eq_true hp.symm
    dsimp only at hr1 hr2 hc1 hc2 hz
    obtain ⟨R, rfl⟩ : ∃ R : Nat, r = (R : Int) := ⟨r.toNat, by omega⟩
    obtain ⟨C, rfl⟩ : ∃ C : Nat, c = (C : Int) := ⟨c.toNat, by omega⟩
    have hz2 : s.size = R * C := by rw [← Int.natCast_mul] at hz; omega
    have HF : Hid (textG ((R : Int), (C : Int), s) = ⟨(linesG C s R).toArray⟩) := Lib.hid (by rw [HTX.out, if_pos rfl]; rfl)
    have hs36 : s.size ≤ 36 := by have := (prod_in hr1 hr2 hc1 hc2).2; omega
    have HZ := Lib.hid hz2
    clear HTX hp hz hz2 hs
    go_enter Tryd.func66, Tryd.ntmps66
    go_wp2
    obtain ⟨W1, hW1⟩ : ∃ W1, W1 = w.alloc (.cells #[.int .i64 R, .int .i64 C, .string s] 25) := ⟨_, rfl⟩
    rw [← hW1] at HBX HKP ⊢
    clear hW1
    go_loopw [3, 4] (fun o i wr => ∃ (k : Nat) (t : ByteArray), k ≤ R ∧ i = .int .i64 k ∧ o = .string t ∧ Hid (t.data.toList = linesG C s k) ∧ t.size ≤ 42 ∧ Hid (Below W1.heap.size W1 wr)) (fun _ i _ => R - (intOf i).toNat)
    case atStart => exact ⟨0, ⟨#[]⟩, Nat.zero_le _, rfl, rfl, Lib.hid rfl, by decide, Lib.hid (Below.refl _ _)⟩
    case round =>
      obtain ⟨k, t, hk, rfl, rfl, HT, ht, HB⟩ := hrel
      obtain ⟨c0, c1, c2⟩ := HKP.out _ HB.out
      by_cases hlt : k < R
      · obtain ⟨m, hm⟩ : ∃ m, m = k * C := ⟨_, rfl⟩
        have hmz : m + C ≤ s.size := by
          rw [HZ.out, hm, ← Nat.succ_mul]
          exact Nat.mul_le_mul_right C hlt
        have hm1 : IntKind.i64.wrap ((k : Int) * (C : Int)) = (m : Int) := by rw [← Int.natCast_mul, ← hm]; exact IntWalk.i64_in _ (by omega)
        have hm2 : IntKind.i64.wrap (((k : Int) + 1) * (C : Int)) = (m + C : Int) := by
          rw [show ((k : Int) + 1) * (C : Int) = (m + C : Int) from by rw [Int.add_mul, Int.one_mul, ← Int.natCast_mul, ← hm]]; exact IntWalk.i64_in _ (by omega)
        have HNX := Lib.hid (linesG_next C s k)
        have HLN := Lib.hid (linesG_length C s (k + 1))
        have HRC : Hid ((k + 1) * (C + 1) ≤ 42) := Lib.hid (Nat.le_trans (Nat.mul_le_mul (show k + 1 ≤ 6 by omega) (show C + 1 ≤ 7 by omega)) (by decide))
        rw [← hm] at HNX
        have HM := Lib.hid hm
        clear hm
        have hex : (s.extract m (m + C)).data.toList = (s.data.toList.drop m).take C := by simp
        have HEX := Lib.hid hex
        clear hex
        by_cases hk0 : k = 0
        · skip
          obtain rfl : m = 0 := by rw [HM.out, hk0, Nat.zero_mul]
          rw [Nat.zero_add] at HEX
          have HT2 : Hid ((t ++ s.extract 0 C).data.toList = linesG C s (k + 1)) := Lib.hid (by
            rw [HNX.out, if_pos hk0]
            simp only [ByteArray.data_append, Array.toList_append, HT.out, HEX.out]
            rfl)
          have hts : (t ++ s.extract 0 C).size ≤ 42 := by
            have h9 := HLN.out
            rw [← HT2.out, size_list] at h9
            exact Nat.le_trans h9 HRC.out
          clear HNX HEX HLN HRC HM
          subst hk0
          go_wp2_with (go_at_call 8; refine (HIG.out _).mono ?_; rintro e w2 ⟨rfl, b2⟩; have HB2 : Hid (Below W1.heap.size W1 w2) := Lib.hid (HB.out.trans (b2.mono HB.out.size)); obtain ⟨d0, d1, d2⟩ := HKP.out _ HB2.out; clear b2)
          go_roundw
          case rel => exact ⟨1, _, by omega, by go_num, rfl, HT2, hts, HB2⟩
          case measure => simp [intOf]; omega
        · have hk1 : (0 : Int) < k := by omega
          have HT2 : Hid ((t ++ ⟨#[47]⟩ ++ s.extract m (m + C)).data.toList = linesG C s (k + 1)) := Lib.hid (by
            rw [HNX.out, if_neg hk0]
            simp only [ByteArray.data_append, Array.toList_append, HT.out, HEX.out, List.append_assoc])
          have hts : (t ++ ⟨#[47]⟩ ++ s.extract m (m + C)).size ≤ 42 := by
            have h9 := HLN.out
            rw [← HT2.out, size_list] at h9
            exact Nat.le_trans h9 HRC.out
          clear HNX HEX HLN HRC HM
          go_wp2_with (go_at_call 8; refine (HIG.out _).mono ?_; rintro e w2 ⟨rfl, b2⟩; have HB2 : Hid (Below W1.heap.size W1 w2) := Lib.hid (HB.out.trans (b2.mono HB.out.size)); obtain ⟨d0, d1, d2⟩ := HKP.out _ HB2.out; clear b2)
          go_roundw
          case rel => exact ⟨k + 1, _, by omega, by go_num, rfl, HT2, hts, HB2⟩
          case measure => simp [intOf]; omega
      · have hk' : k = R := by omega
        have HT2 : Hid (t = ⟨(linesG C s R).toArray⟩) := Lib.hid (by rw [← hk', ← HT.out])
        go_wp2
        go_ret
        exact ⟨by rw [HF.out, ← HT2.out]; rfl, HBX.out.trans (HB.out.mono HBX.out.size)⟩
end Go.Proofs.YtmhgejljjjmejaaDoor
namespace Go.Proofs.YtmhgejljjjmejaaDoor
open Go.RowKit

/-- ParseGrid's loop behind k bytes: lines, columns, cells. -/
def pst (s : List UInt8) : Nat → Nat × Nat × List UInt8
  | 0 => (1, 0, [])
  | k + 1 => if s.getD k 0 = 47 then ((pst s k).1 + 1, (pst s k).2.1, (pst s k).2.2) else ((pst s k).1, (if (pst s k).1 = 1 then k + 1 else (pst s k).2.1), (pst s k).2.2 ++ [s.getD k 0])
def gridP (s : ByteArray) : Int × Int × ByteArray := (((pst s.data.toList s.size).1 : Int), ((pst s.data.toList s.size).2.1 : Int), ⟨(pst s.data.toList s.size).2.2.toArray⟩)
def okP (s : ByteArray) : Bool := decide (textG (gridP s) = s) && isG (gridP s)
/-- What ParseGrid answers. -/
def parseG (s : ByteArray) : (Int × Int × ByteArray) × Bool := if okP s = true then (gridP s, true) else ((0, 0, ⟨#[]⟩), false)

set_option maxHeartbeats 1600000 in
theorem sparseg_any (s : ByteArray) (hs : s.size ≤ 1048576) (w : World) :
    Calls Tryd.prog 58 #[.string s] w fun e w' => e = .returned (.tuple #[aggG (parseG s).1, .bool (parseG s).2]) ∧ Below w.heap.size w w' := by
  have HZ1 : Hid (((w.alloc (.cells #[.int .i64 0, .int .i64 0, .string ⟨#[]⟩] 25)).alloc (.cells #[.int .i64 1, .int .i64 0, .string ⟨#[]⟩] 25)).heap[w.heap.size]? = some (.cells #[.int .i64 0, .int .i64 0, .string ⟨#[]⟩] 25)) := Lib.hid ((box33 (Below.refl _ _)).1)
  have HG1 : Hid (((w.alloc (.cells #[.int .i64 0, .int .i64 0, .string ⟨#[]⟩] 25)).alloc (.cells #[.int .i64 1, .int .i64 0, .string ⟨#[]⟩] 25)).heap[w.heap.size + 1]? = some (.cells #[.int .i64 1, .int .i64 0, .string ⟨#[]⟩] 25)) := Lib.hid ((box33 (Below.refl _ _)).2.1)
  have HB1 : Hid (Below w.heap.size w ((w.alloc (.cells #[.int .i64 0, .int .i64 0, .string ⟨#[]⟩] 25)).alloc (.cells #[.int .i64 1, .int .i64 0, .string ⟨#[]⟩] 25))) := Lib.hid ((box33 (Below.refl _ _)).2.2)
  have HPA : Hid (okP s = true → parseG s = (gridP s, true)) := Lib.hid (fun h => by unfold parseG; rw [h]; rfl)
  have HPB : Hid (okP s = false → parseG s = ((0, 0, ⟨#[]⟩), false)) := Lib.hid (fun h => by unfold parseG; rw [h]; rfl)
  go_enter Tryd.func58, Tryd.ntmps58
  go_wp2_with fail
  obtain ⟨W1, hW1⟩ : ∃ W1, W1 = (w.alloc (.cells #[.int .i64 0, .int .i64 0, .string ⟨#[]⟩] 25)).alloc (.cells #[.int .i64 1, .int .i64 0, .string ⟨#[]⟩] 25) := ⟨_, rfl⟩
  rw [← hW1] at HZ1 HG1 HB1 ⊢
  clear hW1
  go_loopw [5] (fun i wr => ∃ (k : Nat) (t : ByteArray) (r c : Nat), k ≤ s.size ∧ i = .int .i64 k ∧ Hid (pst s.data.toList k = (r, c, t.data.toList)) ∧ 1 ≤ r ∧ r ≤ k + 1 ∧ c ≤ k ∧ t.size ≤ k ∧ Hid (wr.heap[w.heap.size]? = some (.cells #[.int .i64 0, .int .i64 0, .string ⟨#[]⟩] 25)) ∧ Hid (wr.heap[w.heap.size + 1]? = some (.cells #[.int .i64 r, .int .i64 c, .string t] 25)) ∧ Hid (Below w.heap.size w wr)) (fun i _ => s.size - (intOf i).toNat)
  case atStart => exact ⟨0, ⟨#[]⟩, 1, 0, Nat.zero_le _, rfl, Lib.hid rfl, by decide, by decide, by decide, by decide, HZ1, HG1, HB1⟩
  case round =>
    obtain ⟨k, t, r, c, hk, rfl, HP, hr1, hr2, hc, ht, HZ, HG, HB⟩ := hrel
    by_cases hlt : k < s.size
    · obtain ⟨c0, c1, c2, f0, f1, f2⟩ := cells3 HG.out
      have HGD := Lib.hid (getD_byte s k hlt)
      have HNX : Hid (pst s.data.toList (k + 1) = if s[k] = 47 then (r + 1, c, t.data.toList) else (r, (if r = 1 then k + 1 else c), t.data.toList ++ [s[k]])) := Lib.hid (by rw [pst, HP.out, HGD.out])
      have HSN := Lib.hid (snoc_list s t k hlt)
      by_cases h47 : s[k] = 47
      · have hq : ((s[k].toNat : Int) == 47) = true := by simp [h47]
        have hr3 : ((r : Int) + 1 == 1) = false := by simp; omega
        have HNX2 : Hid (pst s.data.toList (k + 1) = (r + 1, c, t.data.toList)) := Lib.hid (by rw [HNX.out, if_pos h47])
        clear h47
        go_wp2
        go_roundw
        case rel => exact ⟨k + 1, t, r + 1, c, by omega, by go_num, HNX2, by omega, by omega, by omega, by omega, Lib.hid ((Below.heap_setCell _ _ _ _ (by simp)).trans HZ.out), Lib.hid (by have h9 := Joins.block_setCell (i := 0) HG.out (.int .i64 ((r : Int) + 1)); exact h9), Lib.hid (HB.out.setCell (p := ⟨w.heap.size + 1, 0, none⟩) (by simp) _)⟩
        case measure => simp [intOf]; omega
      · have hq : ((s[k].toNat : Int) == 47) = false := by simp; intro h; exact h47 (UInt8.toNat_inj.1 (by show s[k].toNat = 47; omega))
        by_cases hr : r = 1
        · have hr3 : ((r : Int) == 1) = true := by simp; omega
          have HNX2 : Hid (pst s.data.toList (k + 1) = (r, k + 1, (t ++ s.extract k (k + 1)).data.toList)) := Lib.hid (by rw [HNX.out, if_neg h47, if_pos hr, HSN.out])
          have hts : (t ++ s.extract k (k + 1)).size ≤ k + 1 := by rw [← size_list, HSN.out, List.length_append, size_list]; simp; omega
          clear h47 hr
          go_wp2
          go_region
          go_wp2
          go_roundw
          case rel => exact ⟨k + 1, t ++ s.extract k (k + 1), r, k + 1, by omega, by go_num, HNX2, by omega, by omega, by omega, hts, Lib.hid ((Below.heap_setCell _ _ _ _ (by simp)).trans ((Below.heap_setCell _ _ _ _ (by simp)).trans HZ.out)), Lib.hid (by have h9 := Joins.block_setCell (i := 1) (Joins.block_setCell (i := 2) HG.out (.string (t ++ s.extract k (k + 1)))) (.int .i64 ((k : Int) + 1)); exact h9), Lib.hid (((HB.out.setCell (p := ⟨w.heap.size + 1, 2, none⟩) (by simp) _).setCell (p := ⟨w.heap.size + 1, 1, none⟩) (by simp) _).drew)⟩
          case measure => simp [intOf]; omega
        · have hr3 : ((r : Int) == 1) = false := by simp; omega
          have HNX2 : Hid (pst s.data.toList (k + 1) = (r, c, (t ++ s.extract k (k + 1)).data.toList)) := Lib.hid (by rw [HNX.out, if_neg h47, if_neg hr, HSN.out])
          have hts : (t ++ s.extract k (k + 1)).size ≤ k + 1 := by rw [← size_list, HSN.out, List.length_append, size_list]; simp; omega
          clear h47 hr
          go_wp2
          go_region
          go_wp2
          go_roundw
          case rel => exact ⟨k + 1, t ++ s.extract k (k + 1), r, c, by omega, by go_num, HNX2, by omega, by omega, by omega, hts, Lib.hid ((Below.heap_setCell _ _ _ _ (by simp)).trans HZ.out), Lib.hid (by have h9 := Joins.block_setCell (i := 2) HG.out (.string (t ++ s.extract k (k + 1))); exact h9), Lib.hid ((HB.out.setCell (p := ⟨w.heap.size + 1, 2, none⟩) (by simp) _).drew)⟩
          case measure => simp [intOf]; omega
    · obtain ⟨e0, e1, e2, x0, x1, x2⟩ := cells3 HG.out
      have hk' : k = s.size := by omega
      have HGP : Hid (gridP s = ((r : Int), (c : Int), t)) := Lib.hid (by have h9 := HP.out; rw [hk'] at h9; unfold gridP; rw [h9])
      have HTXT := Lib.hid (fun w => stext_any (r : Int) (c : Int) t (by omega) w)
      have HISG := Lib.hid (fun w => sisg_any (r : Int) (c : Int) t (by omega) w)
      have HOK : Hid (okP s = (decide (textG ((r : Int), (c : Int), t) = s) && isG ((r : Int), (c : Int), t))) := Lib.hid (by unfold okP; rw [HGP.out])
      obtain ⟨x, hx⟩ : ∃ x, x = textG ((r : Int), (c : Int), t) := ⟨_, rfl⟩
      obtain ⟨b, hb⟩ : ∃ b, b = isG ((r : Int), (c : Int), t) := ⟨_, rfl⟩
      rw [← hx] at HTXT HOK
      rw [← hb] at HISG HOK
      clear hx hb hk' HP
      by_cases he : x = s
      · cases b with
        | true =>
          have HF := Lib.hid (HPA.out (by rw [HOK.out, decide_eq_true he]; rfl))
          rw [HGP.out] at HF
          clear HPA HPB HOK
          subst he
          go_wp2_with (first | (go_at_call 66; refine (HTXT.out _).mono ?_; rintro e w2 ⟨rfl, b2⟩; have HB2 := Lib.hid (HB.out.trans (b2.mono HB.out.size)); have HG2 := Lib.hid ((b2.block (w.heap.size + 1) (size_of_heap HG.out)).trans HG.out); have HZ2 := Lib.hid ((b2.block w.heap.size (size_of_heap HZ.out)).trans HZ.out); obtain ⟨c0, c1, c2, f0, f1, f2⟩ := cells3 HG2.out; obtain ⟨z0, z1, z2, y0, y1, y2⟩ := cells3 HZ2.out; clear b2) | (go_at_call 8; refine (HISG.out _).mono ?_; rintro e w3 ⟨rfl, b3⟩; have HB3 := Lib.hid (HB2.out.trans (b3.mono HB2.out.size)); have HG3 := Lib.hid ((b3.block (w.heap.size + 1) (size_of_heap HG2.out)).trans HG2.out); have HZ3 := Lib.hid ((b3.block w.heap.size (size_of_heap HZ2.out)).trans HZ2.out); obtain ⟨c0', c1', c2', f0', f1', f2'⟩ := cells3 HG3.out; obtain ⟨z0', z1', z2', y0', y1', y2'⟩ := cells3 HZ3.out; clear b3))
          exact bodyPost_ret (v := .tuple #[.agg #[.int .i64 r, .int .i64 c, .string t], .bool true]) (by simp [results, Tryd.results58, go_sem, z0', z1', z2']) rfl ⟨by rw [HF.out]; rfl, (((HB3.out.setCell (p := ⟨w.heap.size, 0, none⟩) (by simp) _).setCell (p := ⟨w.heap.size, 1, none⟩) (by simp) _).setCell (p := ⟨w.heap.size, 2, none⟩) (by simp) _)⟩
        | false =>
          have HF := Lib.hid (HPB.out (by rw [HOK.out]; simp))
          clear HPA HPB HOK
          subst he
          go_wp2_with (first | (go_at_call 66; refine (HTXT.out _).mono ?_; rintro e w2 ⟨rfl, b2⟩; have HB2 := Lib.hid (HB.out.trans (b2.mono HB.out.size)); have HG2 := Lib.hid ((b2.block (w.heap.size + 1) (size_of_heap HG.out)).trans HG.out); have HZ2 := Lib.hid ((b2.block w.heap.size (size_of_heap HZ.out)).trans HZ.out); obtain ⟨c0, c1, c2, f0, f1, f2⟩ := cells3 HG2.out; obtain ⟨z0, z1, z2, y0, y1, y2⟩ := cells3 HZ2.out; clear b2) | (go_at_call 8; refine (HISG.out _).mono ?_; rintro e w3 ⟨rfl, b3⟩; have HB3 := Lib.hid (HB2.out.trans (b3.mono HB2.out.size)); have HG3 := Lib.hid ((b3.block (w.heap.size + 1) (size_of_heap HG2.out)).trans HG2.out); have HZ3 := Lib.hid ((b3.block w.heap.size (size_of_heap HZ2.out)).trans HZ2.out); obtain ⟨c0', c1', c2', f0', f1', f2'⟩ := cells3 HG3.out; obtain ⟨z0', z1', z2', y0', y1', y2'⟩ := cells3 HZ3.out; clear b3))
          exact bodyPost_ret (v := .tuple #[.agg #[.int .i64 0, .int .i64 0, .string ⟨#[]⟩], .bool false]) (by simp [results, Tryd.results58, go_sem, z0', z1', z2']) rfl ⟨by rw [HF.out]; rfl, (((HB3.out.setCell (p := ⟨w.heap.size, 0, none⟩) (by simp) _).setCell (p := ⟨w.heap.size, 1, none⟩) (by simp) _).setCell (p := ⟨w.heap.size, 2, none⟩) (by simp) _)⟩
      · have hne := toList_ne he
        have HF := Lib.hid (HPB.out (by rw [HOK.out, decide_eq_false he]; rfl))
        clear HPA HPB HOK he
        go_wp2_with (first | (go_at_call 66; refine (HTXT.out _).mono ?_; rintro e w2 ⟨rfl, b2⟩; have HB2 := Lib.hid (HB.out.trans (b2.mono HB.out.size)); have HG2 := Lib.hid ((b2.block (w.heap.size + 1) (size_of_heap HG.out)).trans HG.out); have HZ2 := Lib.hid ((b2.block w.heap.size (size_of_heap HZ.out)).trans HZ.out); obtain ⟨c0, c1, c2, f0, f1, f2⟩ := cells3 HG2.out; obtain ⟨z0, z1, z2, y0, y1, y2⟩ := cells3 HZ2.out; clear b2) | (go_at_call 8; refine (HISG.out _).mono ?_; rintro e w3 ⟨rfl, b3⟩; have HB3 := Lib.hid (HB2.out.trans (b3.mono HB2.out.size)); have HG3 := Lib.hid ((b3.block (w.heap.size + 1) (size_of_heap HG2.out)).trans HG2.out); have HZ3 := Lib.hid ((b3.block w.heap.size (size_of_heap HZ2.out)).trans HZ2.out); obtain ⟨c0', c1', c2', f0', f1', f2'⟩ := cells3 HG3.out; obtain ⟨z0', z1', z2', y0', y1', y2'⟩ := cells3 HZ3.out; clear b3))
        exact bodyPost_ret (v := .tuple #[.agg #[.int .i64 0, .int .i64 0, .string ⟨#[]⟩], .bool false]) (by simp [results, Tryd.results58, go_sem, z0, z1, z2]) rfl ⟨by rw [HF.out]; rfl, (((HB2.out.setCell (p := ⟨w.heap.size, 0, none⟩) (by simp) _).setCell (p := ⟨w.heap.size, 1, none⟩) (by simp) _).setCell (p := ⟨w.heap.size, 2, none⟩) (by simp) _)⟩
end Go.Proofs.YtmhgejljjjmejaaDoor
namespace Go.Proofs.YtmhgejljjjmejaaDoor

/-- One byte of ParseGrid's loop: bytes read, lines, columns, cells. -/
def stp (x : Nat × Nat × Nat × List UInt8) (b : UInt8) : Nat × Nat × Nat × List UInt8 := if b = 47 then (x.1 + 1, x.2.1 + 1, x.2.2.1, x.2.2.2) else (x.1 + 1, x.2.1, (if x.2.1 = 1 then x.1 + 1 else x.2.2.1), x.2.2.2 ++ [b])
theorem pst_fold (s : List UInt8) (k : Nat) (h : k ≤ s.length) : (s.take k).foldl stp (0, 1, 0, []) = (k, pst s k) := by
  induction k with
  | zero => rfl
  | succ k ih =>
    have hk : k < s.length := h
    rw [List.take_succ_eq_append_getElem hk, List.foldl_append, ih (by omega)]
    have hg : s.getD k 0 = s[k] := by rw [List.getD_eq_getElem?_getD, List.getElem?_eq_getElem hk]; rfl
    show stp (k, pst s k) s[k] = _
    unfold stp
    rw [pst, hg]
    split <;> rfl
theorem stp_row (l : List UInt8) (hl : ∀ b ∈ l, b ≠ 47) (i r c : Nat) (t : List UInt8) (hr : r ≠ 1) : l.foldl stp (i, r, c, t) = (i + l.length, r, c, t ++ l) := by
  induction l generalizing i t with
  | nil => simp
  | cons b l ih =>
    rw [List.foldl_cons]
    have h1 : stp (i, r, c, t) b = (i + 1, r, c, t ++ [b]) := by unfold stp; rw [if_neg (hl b (by simp))]; simp [hr]
    rw [h1, ih (fun x hx => hl x (by simp [hx]))]
    simp
    omega
theorem stp_first (l : List UInt8) (hl : ∀ b ∈ l, b ≠ 47) (i c : Nat) (t : List UInt8) : l.foldl stp (i, 1, c, t) = (i + l.length, 1, (if l = [] then c else i + l.length), t ++ l) := by
  induction l generalizing i c t with
  | nil => simp
  | cons b l ih =>
    rw [List.foldl_cons]
    have h1 : stp (i, 1, c, t) b = (i + 1, 1, i + 1, t ++ [b]) := by unfold stp; rw [if_neg (hl b (by simp))]; simp
    rw [h1, ih (fun x hx => hl x (by simp [hx]))]
    by_cases hn : l = []
    · subst hn; simp
    · simp [hn]; omega
theorem lines_fold (C : Nat) (s : ByteArray) (hC : 0 < C) (hs : ∀ b ∈ s.data.toList, b ≠ 47) (k : Nat) (hk : (k + 1) * C ≤ s.data.toList.length) :
    (linesG C s (k + 1)).foldl stp (0, 1, 0, []) = (k + (k + 1) * C, k + 1, C, s.data.toList.take ((k + 1) * C)) := by
  induction k with
  | zero =>
    have h1 : linesG C s 1 = s.data.toList.take C := by simp [linesG]
    have hlen : (s.data.toList.take C).length = C := by rw [List.length_take]; omega
    rw [h1, stp_first _ (fun b hb => hs b (List.mem_of_mem_take hb)), hlen, if_neg (by intro h; rw [h] at hlen; simp at hlen; omega)]
    simp
  | succ k ih =>
    have hk2 : (k + 1 + 1) * C = (k + 1) * C + C := Nat.succ_mul ..
    have hlen : ((s.data.toList.drop ((k + 1) * C)).take C).length = C := by rw [List.length_take, List.length_drop]; omega
    rw [linesG_next, List.foldl_append, ih (by omega), if_neg (by omega), List.foldl_append]
    have h1 : List.foldl stp (k + (k + 1) * C, k + 1, C, s.data.toList.take ((k + 1) * C)) [47] = (k + (k + 1) * C + 1, k + 2, C, s.data.toList.take ((k + 1) * C)) := rfl
    rw [h1, stp_row _ (fun b hb => hs b (List.mem_of_mem_drop (List.mem_of_mem_take hb))) _ _ _ _ (by omega), hlen, hk2, List.take_add]
    congr 1
    omega
/-- What ParseGrid reads off a grid's text is the grid. -/
theorem parse_text {g : Int × Int × ByteArray} (h : isG g = true) : parseG (textG g) = (g, true) := by
  obtain ⟨r, c, s⟩ := g
  obtain ⟨⟨hr1, hr2⟩, ⟨hc1, hc2⟩, hz, hb⟩ := of_decide_eq_true h
  dsimp only at hr1 hr2 hc1 hc2 hz hb
  obtain ⟨R, rfl⟩ : ∃ R : Nat, r = (R : Int) := ⟨r.toNat, by omega⟩
  obtain ⟨C, rfl⟩ : ∃ C : Nat, c = (C : Int) := ⟨c.toNat, by omega⟩
  have hz2 : s.size = R * C := by rw [← Int.natCast_mul] at hz; omega
  have hn : ∀ b ∈ s.data.toList, b ≠ 47 := fun b hm => by rcases hb b hm with rfl | rfl <;> decide
  have hT : textG ((R : Int), (C : Int), s) = ⟨(linesG C s R).toArray⟩ := by unfold textG; rw [if_pos h]; rfl
  obtain ⟨K, rfl⟩ : ∃ K, R = K + 1 := ⟨R - 1, by omega⟩
  have hsl : s.data.toList.length = (K + 1) * C := by rw [size_list, hz2]
  have hF := lines_fold C s (by omega) hn K (by omega)
  have hP := pst_fold (linesG C s (K + 1)) (linesG C s (K + 1)).length (Nat.le_refl _)
  rw [List.take_length, hF] at hP
  have hP2 : pst (linesG C s (K + 1)) (linesG C s (K + 1)).length = (K + 1, C, s.data.toList) := by
    rw [← (Prod.mk.inj hP).2, ← hsl, List.take_length]
  have hG : gridP ⟨(linesG C s (K + 1)).toArray⟩ = (((K + 1 : Nat) : Int), (C : Int), s) := by
    have hsz : (⟨(linesG C s (K + 1)).toArray⟩ : ByteArray).size = (linesG C s (K + 1)).length := by rw [← size_list]
    unfold gridP
    rw [hsz]
    show (((pst (linesG C s (K + 1)) _).1 : Int), ((pst (linesG C s (K + 1)) _).2.1 : Int), (⟨(pst (linesG C s (K + 1)) _).2.2.toArray⟩ : ByteArray)) = _
    rw [hP2]
  have hO : okP (textG (((K + 1 : Nat) : Int), (C : Int), s)) = true := by
    unfold okP
    rw [hT, hG, hT, h]
    simp
  unfold parseG
  rw [if_pos hO, hT, hG]
theorem parse_yes {s : ByteArray} (h : (parseG s).2 = true) : isG (parseG s).1 = true ∧ textG (parseG s).1 = s := by
  unfold parseG at h ⊢
  by_cases ho : okP s = true
  · rw [if_pos ho]
    unfold okP at ho
    rw [Bool.and_eq_true] at ho
    exact ⟨ho.2, of_decide_eq_true ho.1⟩
  · rw [if_neg ho] at h
    cases h
theorem parse_no {s : ByteArray} (h : (parseG s).2 = false) : (parseG s).1 = (0, 0, ⟨#[]⟩) ∧ ∀ g, isG g = true → textG g ≠ s := by
  refine ⟨?_, fun g hg e => ?_⟩
  · unfold parseG at h ⊢
    by_cases ho : okP s = true
    · rw [if_pos ho] at h; cases h
    · rw [if_neg ho]
  · rw [← e, parse_text hg] at h
    cases h
end Go.Proofs.YtmhgejljjjmejaaDoor
namespace Go.Proofs.YtmhgejljjjmejaaDoor
open Go.RowKit

/-- One exchange of neighbours at a distance. -/
def rvS (k M x : Int) : Int := bits .or .u64 (bits .and .u64 (x / k) M) (IntKind.u64.wrap (bits .and .u64 x M * k))
def rvL (x : Int) : Int := bits .or .u64 (x / 4294967296) (IntKind.u64.wrap (x * 4294967296))
def rvE1 (x : Int) : Int := rvS 16 1085102592571150095 (rvS 4 3689348814741910323 (rvS 2 6148914691236517205 x))
def rvE2 (x : Int) : Int := rvL (rvS 65536 281470681808895 (rvS 256 71777214294589695 x))
def rvN (s M x : Nat) : Nat := (x / 2 ^ s &&& M) ||| ((x &&& M) * 2 ^ s % 2 ^ 64)
def rvM (x : Nat) : Nat := (x / 2 ^ 32) ||| (x * 2 ^ 32 % 2 ^ 64)
def flip (s i : Nat) : Nat := if (i / s) % 2 = 0 then i + s else i - s

theorem rvS_nat (s M x : Nat) (hM : M < 18446744073709551616) (hx : x < 18446744073709551616) : rvS ((2 ^ s : Nat) : Int) (M : Int) (x : Int) = ((rvN s M x : Nat) : Int) := by
  have hd : x / 2 ^ s < 18446744073709551616 := Nat.lt_of_le_of_lt (Nat.div_le_self _ _) hx
  unfold rvS rvN
  rw [← Int.natCast_ediv, bits_and_u64_nat _ _ hd hM, bits_and_u64_nat _ _ hx hM, ← Int.natCast_mul, IntKind.wrap_u64,
    show (((x &&& M) * 2 ^ s : Nat) : Int) % 18446744073709551616 = (((x &&& M) * 2 ^ s % 2 ^ 64 : Nat) : Int) by simp,
    bits_or_u64_nat _ _ (Nat.lt_of_le_of_lt Nat.and_le_right hM) (Nat.mod_lt _ (by decide))]
theorem rvS_at (s M x : Nat) (k Mi : Int) (hk : k = ((2 ^ s : Nat) : Int)) (hm : Mi = (M : Int)) (hM : M < 18446744073709551616) (hx : x < 18446744073709551616) : rvS k Mi (x : Int) = ((rvN s M x : Nat) : Int) := by
  rw [hk, hm]; exact rvS_nat s M x hM hx
theorem rvL_nat (x : Nat) (hx : x < 18446744073709551616) : rvL (x : Int) = ((rvM x : Nat) : Int) := by
  have hd : x / 2 ^ 32 < 18446744073709551616 := Nat.lt_of_le_of_lt (Nat.div_le_self _ _) hx
  unfold rvL rvM
  rw [show (x : Int) / 4294967296 = ((x / 2 ^ 32 : Nat) : Int) by simp, show (x : Int) * 4294967296 = ((x * 2 ^ 32 : Nat) : Int) by simp, IntKind.wrap_u64,
    show ((x * 2 ^ 32 : Nat) : Int) % 18446744073709551616 = ((x * 2 ^ 32 % 2 ^ 64 : Nat) : Int) by simp, bits_or_u64_nat _ _ hd (Nat.mod_lt _ (by decide))]
theorem rvN_lt (s M x : Nat) (hM : M < 18446744073709551616) : rvN s M x < 18446744073709551616 :=
  Nat.or_lt_two_pow (n := 64) (Nat.lt_of_le_of_lt Nat.and_le_right hM) (Nat.mod_lt _ (by decide))
theorem rvM_lt (x : Nat) (hx : x < 18446744073709551616) : rvM x < 18446744073709551616 :=
  Nat.or_lt_two_pow (n := 64) (Nat.lt_of_le_of_lt (Nat.div_le_self _ _) hx) (Nat.mod_lt _ (by decide))
theorem rvN_bit (s M x i : Nat) (hs : 0 < s) (hM : ∀ j, j < 64 → M.testBit j = decide ((j / s) % 2 = 0)) (hi : i < 64) : (rvN s M x).testBit i = x.testBit (flip s i) := by
  unfold rvN flip
  rw [Nat.testBit_or, Nat.testBit_and, Nat.testBit_div_two_pow, Nat.testBit_mod_two_pow, Nat.testBit_mul_two_pow, Nat.testBit_and, hM i hi]
  by_cases h : (i / s) % 2 = 0
  · rw [if_pos h]
    by_cases h2 : s ≤ i
    · have h3 : (i - s) / s = i / s - 1 := by have h9 := Nat.add_div_right (i - s) hs; rw [Nat.sub_add_cancel h2] at h9; rw [h9]; rfl
      have h4 : 1 ≤ i / s := (Nat.le_div_iff_mul_le hs).2 (by rw [Nat.one_mul]; exact h2)
      rw [hM (i - s) (by omega), h3, decide_eq_false (by omega : ¬ (i / s - 1) % 2 = 0)]
      simp [h]
    · simp [h, h2]
  · rw [if_neg h]
    have h4 : 1 ≤ i / s := by
      rcases Nat.eq_zero_or_pos (i / s) with h5 | h5
      · rw [h5] at h; simp at h
      · exact h5
    have h2 : s ≤ i := by have := (Nat.le_div_iff_mul_le hs).1 h4; omega
    have h3 : (i - s) / s = i / s - 1 := by have h9 := Nat.add_div_right (i - s) hs; rw [Nat.sub_add_cancel h2] at h9; rw [h9]; rfl
    rw [hM (i - s) (by omega), h3, decide_eq_true (by omega : (i / s - 1) % 2 = 0)]
    simp [h, h2, hi]
theorem rvM_bit (x i : Nat) (hx : x < 18446744073709551616) (hi : i < 64) : (rvM x).testBit i = x.testBit (flip 32 i) := by
  unfold rvM flip
  rw [Nat.testBit_or, Nat.testBit_div_two_pow, Nat.testBit_mod_two_pow, Nat.testBit_mul_two_pow]
  by_cases h2 : 32 ≤ i
  · rw [if_neg (by omega), Nat.testBit_lt_two_pow (x := x) (i := i + 32) (Nat.lt_of_lt_of_le hx (show (2 : Nat) ^ 64 ≤ 2 ^ (i + 32) from Nat.pow_le_pow_right (by omega) (by omega)))]
    simp [h2, hi]
  · rw [if_pos (by omega)]
    simp [h2]
theorem m1 : ∀ j, j < 64 → (6148914691236517205 : Nat).testBit j = decide ((j / 1) % 2 = 0) := by decide +kernel
theorem m2 : ∀ j, j < 64 → (3689348814741910323 : Nat).testBit j = decide ((j / 2) % 2 = 0) := by decide +kernel
theorem m4 : ∀ j, j < 64 → (1085102592571150095 : Nat).testBit j = decide ((j / 4) % 2 = 0) := by decide +kernel
theorem m8 : ∀ j, j < 64 → (71777214294589695 : Nat).testBit j = decide ((j / 8) % 2 = 0) := by decide +kernel
theorem m16 : ∀ j, j < 64 → (281470681808895 : Nat).testBit j = decide ((j / 16) % 2 = 0) := by decide +kernel
theorem flips : ∀ i, i < 64 → flip 1 (flip 2 (flip 4 (flip 8 (flip 16 (flip 32 i))))) = 63 - i := by decide +kernel
theorem flip_lt : ∀ i, i < 64 → flip 32 i < 64 ∧ flip 16 i < 64 ∧ flip 8 i < 64 ∧ flip 4 i < 64 ∧ flip 2 i < 64 := by decide +kernel
def revA (x : Nat) : Nat := rvN 4 1085102592571150095 (rvN 2 3689348814741910323 (rvN 1 6148914691236517205 x))
def revB (x : Nat) : Nat := rvM (rvN 16 281470681808895 (rvN 8 71777214294589695 x))
def revN (x : Nat) : Nat := revB (revA x)
theorem revA_eq (x : Nat) (hx : x < 18446744073709551616) : rvE1 (x : Int) = ((revA x : Nat) : Int) := by
  unfold rvE1 revA
  rw [rvS_at 1 6148914691236517205 x 2 6148914691236517205 (by decide) (by rfl) (by decide) hx, rvS_at 2 3689348814741910323 _ 4 3689348814741910323 (by decide) (by rfl) (by decide) (rvN_lt _ _ _ (by decide)), rvS_at 4 1085102592571150095 _ 16 1085102592571150095 (by decide) (by rfl) (by decide) (rvN_lt _ _ _ (by decide))]
theorem revB_eq (x : Nat) (hx : x < 18446744073709551616) : rvE2 (x : Int) = ((revB x : Nat) : Int) := by
  unfold rvE2 revB
  rw [rvS_at 8 71777214294589695 x 256 71777214294589695 (by decide) (by rfl) (by decide) hx, rvS_at 16 281470681808895 _ 65536 281470681808895 (by decide) (by rfl) (by decide) (rvN_lt _ _ _ (by decide)), rvL_nat _ (rvN_lt _ _ _ (by decide))]
theorem revA_lt (x : Nat) : revA x < 18446744073709551616 := rvN_lt _ _ _ (by decide)
theorem revN_lt (x : Nat) : revN x < 18446744073709551616 := rvM_lt _ (rvN_lt _ _ _ (by decide))
theorem revN_bit (x i : Nat) (hi : i < 64) : (revN x).testBit i = x.testBit (63 - i) := by
  have f1 := flip_lt i hi
  have f2 := flip_lt _ f1.1
  have f3 := flip_lt _ f2.2.1
  have f4 := flip_lt _ f3.2.2.1
  have f5 := flip_lt _ f4.2.2.2.1
  unfold revN revB revA
  rw [rvM_bit _ _ (rvN_lt _ _ _ (by decide)) hi, rvN_bit 16 _ _ _ (by decide) m16 f1.1, rvN_bit 8 _ _ _ (by decide) m8 f2.2.1, rvN_bit 4 _ _ _ (by decide) m4 f3.2.2.1,
    rvN_bit 2 _ _ _ (by decide) m2 f4.2.2.2.1, rvN_bit 1 _ _ _ (by decide) m1 f5.2.2.2.2, flips i hi]

/-- The white cells among the first k. -/
def wT (s : ByteArray) (k : Nat) : Nat := setTo (fun i => s.data.toList.getD i 0 == 46) k
theorem wT_lt (s : ByteArray) (k : Nat) (h : k ≤ 36) : wT s k < 68719476736 := Nat.lt_of_lt_of_le (setTo_lt _ _) (show (2 : Nat) ^ k ≤ 2 ^ 36 from Nat.pow_le_pow_right (by omega) h)
theorem wT_yes (s : ByteArray) (k : Nat) (h : s.data.toList.getD k 0 = 46) : wT s (k + 1) = wT s k ||| 2 ^ k := by
  unfold wT
  rw [setTo, if_pos (beq_iff_eq.2 h)]
theorem wT_no (s : ByteArray) (k : Nat) (h : s.data.toList.getD k 0 ≠ 46) : wT s (k + 1) = wT s k := by
  unfold wT
  rw [setTo, if_neg (fun e => h (beq_iff_eq.1 e))]
theorem wT_bit (s : ByteArray) (k i : Nat) (h : i < k) : (wT s k).testBit i = decide (s.data.toList.getD i 0 = 46) := by
  unfold wT
  rw [setTo_bit, decide_eq_true h, Bool.true_and]
  by_cases e : s.data.toList.getD i 0 = 46
  · rw [e]; rfl
  · rw [decide_eq_false e]; exact beq_eq_false_iff_ne.2 e
/-- The half turn, by reversing and shifting. -/
theorem turn_bits (s : ByteArray) (n : Nat) (hn : s.size = n) (h : n ≤ 36) : revN (wT s n) / 2 ^ (64 - n) = wT (backL s) n := by
  apply Nat.eq_of_testBit_eq
  intro i
  rw [Nat.testBit_div_two_pow]
  by_cases hi : i < n
  · have hl : s.data.toList.length = n := by rw [size_list, hn]
    rw [revN_bit _ _ (by omega), wT_bit s n _ (by omega), wT_bit _ n _ hi]
    have hb : (backL s).data.toList.getD i 0 = s.data.toList.getD (63 - (i + (64 - n))) 0 := by
      rw [back_list (by omega), List.getD_eq_getElem?_getD, List.getD_eq_getElem?_getD, List.getElem?_reverse (by omega), show s.data.toList.length - 1 - i = 63 - (i + (64 - n)) by omega]
    rw [hb]
  · have h1 : (revN (wT s n)).testBit (i + (64 - n)) = false := Nat.testBit_lt_two_pow (Nat.lt_of_lt_of_le (revN_lt _) (show (2 : Nat) ^ 64 ≤ 2 ^ (i + (64 - n)) from Nat.pow_le_pow_right (by omega) (by omega)))
    rw [h1]
    unfold wT
    rw [setTo_bit, decide_eq_false hi, Bool.false_and]
end Go.Proofs.YtmhgejljjjmejaaDoor
