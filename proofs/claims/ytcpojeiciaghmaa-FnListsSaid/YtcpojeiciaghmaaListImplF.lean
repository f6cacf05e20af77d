/-
  slices.Insert at a list, one element: own walk (elements of four cells).
-/
import Derived.Test.YtcpojeiciaghmaaListImplE
import Derived.Lib.Overlaps
import Derived.Lib.AppendZerosOnto
import Derived.Laws.CopyOwn
import Derived.Laws.Externs
import Derived.Deep.RegionLaw
namespace Go.Proofs.Ytcpojeiciaghmaa
open Go.RowKit

theorem undrew_grown {w w' : World} {r : Option Nat} (h : w.drew.grownBy w' r) : w.grownBy w' r := ⟨h.os, h.tape, h.output, h.size, h.block⟩
theorem grown_setRow (w : World) (g : Nat) (cs : Array Value) : w.grownBy (w.setRow g cs) (some g) :=
  ⟨rfl, rfl, rfl, by simp [World.setRow], fun k _ hk => setRow_other w g k cs (fun e => hk (by rw [e]))⟩

/-- copy into a row that is known whole, elements of any number of cells. -/
theorem run_copy_rowS {P : Program} (w : World) (dT sT ty elem : TypeId) (size : Nat) (g o dLen dCap : Nat) (a : Addr) (sLen sCap : Nat) (cur : Array Value) (t : TypeId) (cs : List Value)
    (hu : P.underlying dT = some (.slice elem)) (hs : (P.info? elem).map (·.size) = some size)
    (hg : w.heap[g]? = some (.cells cur t (0, 0))) (hn : cs.length = Nat.min sLen dLen * size)
    (hsrc : ∀ j v, cs[j]? = some v → w.cell? (a.add j) = some v) (hfit : o + cs.length ≤ cur.size) (h1 : ∀ v ∈ cs, v.oneCell' = true) :
    (Builtin.copy_ #[dT, sT] ty #[.slice (some ⟨g, o, none⟩) dLen dCap, .slice (some a) sLen sCap]).run P w =
      .ok (goInt (Nat.min sLen dLen)) (w.setRow g (cur.toList.take o ++ cs ++ cur.toList.drop (o + cs.length)).toArray) := by
  have hl := run_loadCells_list (P := P) w a cs hsrc
  have hst := run_storeCells_at P g o t cs 0 cur w hg (by simpa using hfit) h1
  obtain ⟨n, hn2⟩ : ∃ n, n = Nat.min sLen dLen := ⟨_, rfl⟩
  rw [← hn2] at hn ⊢
  cases hq : P.info? elem with
  | none => simp [hq] at hs
  | some i =>
    have hi : i.size = size := by simpa [hq] using hs
    simp [Builtin.copy_, run_underlying hu, Builtin.lenOf, Builtin.firstCells, sizeOf, typeInfo, hq, hi, ← hn2, ← hn, hl, hst]
theorem wp_copyS {P : Program} {o : Oper} {a : Act} {w : World} {K : Act → World → Prop} {Q : Exit → Act → World → Prop} (d s : Operand) (dT sT : TypeId)
    (ho : o.op = .call { callee := .builtin .copy, args := #[d, s], argTypes := #[dT, sT] }) (elem : TypeId) (size : Nat) (hu : P.underlying dT = some (.slice elem)) (hsz : (P.info? elem).map (·.size) = some size)
    (g off dLen dCap : Nat) (ad : Addr) (sLen sCap : Nat) (hd : a.eval d = .slice (some ⟨g, off, none⟩) dLen dCap) (hs : a.eval s = .slice (some ad) sLen sCap)
    (cur : List Value) (t : TypeId) (hg : w.heap[g]? = some (.cells cur.toArray t (0, 0))) (cs : List Value) (hn : cs.length = Nat.min sLen dLen * size)
    (hsrc : ∀ j v, cs[j]? = some v → w.cell? (ad.add j) = some v) (hfit : off + cs.length ≤ cur.length) (h1 : ∀ v ∈ cs, v.oneCell' = true)
    (h : ∀ w', Hid (w'.heap[g]? = some (.cells (splice cur off cs).toArray t (0, 0))) → w.grownBy w' (some g) → K (a.put o.dst (goInt (Nat.min sLen dLen))) w') : o.wp P a w K Q := by
  have hrun := run_copy_rowS (P := P) w dT sT o.type elem size g off dLen dCap ad sLen sCap cur.toArray t cs hu hsz hg hn hsrc (by simpa using hfit) h1
  unfold Oper.wp
  simp [execOp, ho, resolve, invoke, builtin, hd, hs, hrun, Result.andThen]
  exact h _ (show _ = _ by simpa [splice] using setRow_heap w g _ _ t _ hg) (grown_setRow w g _)
theorem wpList_copyS {P : Program} {w : World} {ops : Array Oper} {rest : List Oper} {o : Oper} {a : Act} {Q : Exit → Act → World → Prop} (hgd : o.guard = none) (d s : Operand) (dT sT : TypeId)
    (ho : o.op = .call { callee := .builtin .copy, args := #[d, s], argTypes := #[dT, sT] }) (elem : TypeId) (size : Nat) (hu : P.underlying dT = some (.slice elem)) (hsz : (P.info? elem).map (·.size) = some size)
    (g off dLen dCap : Nat) (ad : Addr) (sLen sCap : Nat) (hd : a.eval d = .slice (some ⟨g, off, none⟩) dLen dCap) (hs : a.eval s = .slice (some ad) sLen sCap)
    (cur : List Value) (t : TypeId) (hg : w.heap[g]? = some (.cells cur.toArray t (0, 0))) (cs : List Value) (hn : cs.length = Nat.min sLen dLen * size)
    (hsrc : ∀ j v, cs[j]? = some v → w.cell? (ad.add j) = some v) (hfit : off + cs.length ≤ cur.length) (h1 : ∀ v ∈ cs, v.oneCell' = true)
    (h : ∀ w', Hid (w'.heap[g]? = some (.cells (splice cur off cs).toArray t (0, 0))) → w.grownBy w' (some g) → wpList P ops Q rest (a.put o.dst (goInt (Nat.min sLen dLen))) w') : wpList P ops Q (o :: rest) a w :=
  wpList_plain hgd fun _ hK => wp_copyS d s dT sT ho elem size hu hsz g off dLen dCap ad sLen sCap hd hs cur t hg cs hn hsrc hfit h1 (fun w' h2 h3 => hK _ _ (h w' h2 h3))
theorem step_copyS {P : Program} {ops : Array Oper} {o : Oper} {a : Act} {w : World} {K : Act → World → Prop} {Q : Exit → Act → World → Prop} {E : Prop} (hgd : o.guard = none) (d s : Operand) (dT sT : TypeId)
    (ho : o.op = .call { callee := .builtin .copy, args := #[d, s], argTypes := #[dT, sT] }) (elem : TypeId) (size : Nat) (hu : P.underlying dT = some (.slice elem)) (hsz : (P.info? elem).map (·.size) = some size)
    (g off dLen dCap : Nat) (ad : Addr) (sLen sCap : Nat) (hd : a.eval d = .slice (some ⟨g, off, none⟩) dLen dCap) (hs : a.eval s = .slice (some ad) sLen sCap)
    (cur : List Value) (t : TypeId) (hg : w.heap[g]? = some (.cells cur.toArray t (0, 0))) (cs : List Value) (hn : cs.length = Nat.min sLen dLen * size)
    (hsrc : ∀ j v, cs[j]? = some v → w.cell? (ad.add j) = some v) (hfit : off + cs.length ≤ cur.length) (h1 : ∀ v ∈ cs, v.oneCell' = true)
    (h : ∀ w', Hid (w'.heap[g]? = some (.cells (splice cur off cs).toArray t (0, 0))) → w.grownBy w' (some g) → K (a.put o.dst (goInt (Nat.min sLen dLen))) w') :
    if Region.wanted o (yielded ops a.tmps) = true then Oper.wp P o a w K Q else E := by
  have hw : Region.wanted o (yielded ops a.tmps) = true := by simp [Region.wanted, hgd]
  rw [if_pos hw]
  exact wp_copyS d s dT sT ho elem size hu hsz g off dLen dCap ad sLen sCap hd hs cur t hg cs hn hsrc hfit h1 h

/-- The row behind an insertion: what stood from a on laid anew from b on, then X laid between. -/
theorem splice2 (cur X : List Value) (p q n : Nat) (hX : X.length = q) (hp : p ≤ n) (hc : n + q ≤ cur.length) :
    (splice (splice cur (p + q) ((cur.take n).drop p)) p X).take (n + q) = (cur.take n).take p ++ X ++ (cur.take n).drop p := by
  have hD : ((cur.take n).drop p).length = n - p := by simp; omega
  have e0 : (cur.take n).take p = cur.take p := by rw [List.take_take, Nat.min_eq_left hp]
  unfold splice
  have e1 : (cur.take (p + q) ++ ((cur.take n).drop p ++ cur.drop (p + q + ((cur.take n).drop p).length))).take p = cur.take p := by
    rw [List.take_append_of_le_length (by simp; omega), List.take_take, Nat.min_eq_left (by omega)]
  have e2 : (cur.take (p + q) ++ ((cur.take n).drop p ++ cur.drop (p + q + ((cur.take n).drop p).length))).drop (p + X.length) = (cur.take n).drop p ++ cur.drop (p + q + ((cur.take n).drop p).length) := by
    rw [List.drop_left' (by simp; omega)]
  rw [e1, e2, e0, ← List.append_assoc, ← List.append_assoc]
  rw [List.take_left' (by simp [hX]; omega)]
theorem sizeL (e : TypeId) (n : Nat) (h : (Try.prog.info? e).map (·.size) = some n) (w : World) : (Go.sizeOf e).run Try.prog w = .ok n w := by
  cases hq : Try.prog.info? e with
  | none => simp [hq] at h
  | some i =>
    have hi : i.size = n := by simpa [hq] using h
    simp [sizeOf, typeInfo, hq, hi]
theorem blk_cells {W : World} {g : Nat} {x : ByteArray × Int × Int × Int} {t : TypeId} (h : W.heap[g]? = some (.cells (cells_Listed x).toArray t (0, 0))) : ∀ j v, (cells_Listed x)[j]? = some v → W.cell? ((⟨g, 0, none⟩ : Addr).add j) = some v := fun j v hj => by
  have e3 : (⟨g, 0, none⟩ : Addr).add j = ⟨g, 0 + j, none⟩ := by unfold Addr.add; split <;> simp_all
  rw [e3, Nat.zero_add, cell_of_row _ g j _ t (0, 0) h]
  simpa using hj

theorem row_src {W : World} {g : Nat} {cur : List Value} {t : TypeId} (h : W.heap[g]? = some (.cells cur.toArray t (0, 0))) (p m : Nat) : ∀ j v, ((cur.take m).drop p)[j]? = some v → W.cell? ((⟨g, p, none⟩ : Addr).add j) = some v := fun j v hj => by
  have e3 : (⟨g, p, none⟩ : Addr).add j = ⟨g, p + j, none⟩ := by unfold Addr.add; split <;> simp_all
  rw [e3, cell_of_row _ g (p + j) _ t (0, 0) h]
  rw [List.getElem?_drop, List.getElem?_take] at hj
  split at hj
  · simpa using hj
  · cases hj
theorem row_ins (l : LZ) (x : ByteArray × Int × Int × Int) (i : Nat) (hi : i ≤ l.length) : row_Listed (insAt l i x) = (row_Listed l).take (i * 4) ++ cells_Listed x ++ (row_Listed l).drop (i * 4) := by
  unfold insAt
  rw [row_Listed_append, row_Listed_append, lrow_take l i hi, lrow_drop l i hi]
  congr 2
theorem cells_Listed_one (x : ByteArray × Int × Int × Int) : ∀ u ∈ cells_Listed x, u.oneCell' = true := by simp [cells_Listed, Value.oneCell']
theorem ins_cells (l : LZ) (x : ByteArray × Int × Int × Int) (i n : Nat) (cur : List Value) (hln : l.length = n) (hi : i ≤ n) (hc : (n + 1) * 4 ≤ cur.length) (htk : cur.take (n * 4) = row_Listed l) :
    (splice (splice cur ((i + 1) * 4) ((cur.take (n * 4)).drop (i * 4))) (i * 4) (cells_Listed x)).take ((n + 1) * 4) = row_Listed (insAt l i x) := by
  have h := splice2 cur (cells_Listed x) (i * 4) 4 (n * 4) (cells_Listed_length x) (by omega) (by omega)
  rw [show (i + 1) * 4 = i * 4 + 4 by omega, show (n + 1) * 4 = n * 4 + 4 by omega, h, htk, row_ins l x i (by omega)]
theorem grow_cells (l : LZ) (x : ByteArray × Int × Int × Int) (i n : Nat) (Z : List Value) (hln : l.length = n) (hi : i ≤ n) (hc : (n + 1) * 4 ≤ Z.length) (htk : Z.take (i * 4) = (row_Listed l).take (i * 4)) :
    (splice (splice Z (i * 4) (cells_Listed x)) ((i + 1) * 4) ((row_Listed l).drop (i * 4))).take ((n + 1) * 4) = row_Listed (insAt l i x) := by
  have hX := cells_Listed_length x
  have hD : ((row_Listed l).drop (i * 4)).length = (n - i) * 4 := by rw [List.length_drop, row_Listed_length, hln]; omega
  rw [row_ins l x i (by omega), ← htk]
  obtain ⟨D, eD⟩ : ∃ D, D = (row_Listed l).drop (i * 4) := ⟨_, rfl⟩
  obtain ⟨X, eX⟩ : ∃ X, X = cells_Listed x := ⟨_, rfl⟩
  rw [← eD] at hD ⊢
  rw [← eX] at hX ⊢
  have e1 : (splice Z (i * 4) X).take ((i + 1) * 4) = Z.take (i * 4) ++ X := by
    unfold splice
    rw [← List.append_assoc, List.take_left' (by simp [hX]; omega)]
  show ((splice Z (i * 4) X).take ((i + 1) * 4) ++ (D ++ _)).take _ = _
  rw [e1, ← List.append_assoc, List.take_left' (by simp [hX, hD]; omega)]

set_option maxRecDepth 100000 in
set_option maxHeartbeats 4000000 in
/-- slices.Insert: there is room, i < len(s). -/
theorem ins_room (l : LZ) (x : ByteArray × Int × Int × Int) (i n c b vb : Nat) (cur : List Value) (w : World) (hln : l.length = n) (hi : i < n) (hroom : n + 1 ≤ c) (hc : c ≤ 9223372036854775807) (hvb : vb ≠ b) (hn : n ≤ 1048576)
    (hg : w.heap[b]? = some (.cells cur.toArray 32 (0, 0))) (hcl : cur.length = c * 4) (htk : cur.take (n * 4) = row_Listed l) (hv : w.heap[vb]? = some (.cells (cells_Listed x).toArray 32 (0, 0))) :
    Calls Try.prog 50 #[.slice (some ⟨b, 0, none⟩) n c, .int .i64 i, .slice (some ⟨vb, 0, none⟩) 1 1] w fun e w' =>
      ∃ cur', e = .returned (.slice (some ⟨b, 0, none⟩) (n + 1) c) ∧ w'.heap[b]? = some (.cells cur' 32 (0, 0)) ∧ cur'.size = c * 4 ∧ cur'.toList.take ((n + 1) * 4) = row_Listed (insAt l i x) ∧ w.grownBy w' (some b) := by
  have hsz : (Try.prog.info? 32).map (·.size) = some 4 := by kernel_rfl
  have hov : ∀ o2 lb cb, (callFunc 67 #[.slice (some ⟨vb, 0, none⟩) 1 1, .slice (some ⟨b, o2, none⟩) lb cb]).run Try.prog w = .ok (.value (.bool false)) w := fun o2 lb cb => by
    rw [run_callFunc_extern Try.func67 (by kernel_rfl) (by kernel_rfl) (by kernel_rfl) (e := Extern.SlicesOverlaps.overlaps #[24, 24] #[4]) (by kernel_rfl),
      Lib.run_overlaps_apart w 24 4 32 Try.underlying24 4 (sizeL _ 4 hsz) ⟨vb, 0, none⟩ ⟨b, o2, none⟩ 1 1 lb cb hvb 32 32 4 (c * 4) (by simp [World.shape?, hv, cells_Listed]) (by simp [World.shape?, hg, hcl]) (by omega) (by simp [World.frozen?, hv]) (by simp [World.frozen?, hv])]
    rfl
  have HG := Lib.hid hg
  have HV := Lib.hid hv
  have HCL := Lib.hid hcl
  have HTK := Lib.hid htk
  have HLN := Lib.hid hln
  have hz2 : ¬ ((i : Int) = (n : Int)) := by omega
  have hw1 : IntKind.i64.wrap ((i : Int) + 1) = (i : Int) + 1 := by rw [IntKind.wrap_i64]; omega
  have hb1 : (0 : Int) ≤ (i : Int) + 1 := by omega
  have hin : i ≤ n := by omega
  have htn : ((i : Int) + 1).toNat = i + 1 := by omega
  have hb2 : ¬ (c = i + 1) := by omega
  have hb3 : (i : Int) ≤ (n : Int) + 1 := by omega
  have hb4 : ¬ (c = i) := by omega
  have HIC := Lib.hid (ins_cells l x i n cur hln hin (by omega) htk)
  have hD1 : ((cur.take (n * 4)).drop (i * 4)).length = (n - i) * 4 := by rw [htk, List.length_drop, row_Listed_length, hln]; omega
  have hD2 : ∀ v ∈ (cur.take (n * 4)).drop (i * 4), v.oneCell' = true := fun v h => row_Listed_one l v (by rw [← htk]; exact List.mem_of_mem_drop h)
  have HSRC := Lib.hid (fun W h => row_src (W := W) (g := b) (cur := cur) (t := 32) h (i * 4) (n * 4))
  have HXS := Lib.hid (fun W h => blk_cells (W := W) (g := vb) (x := x) (t := 32) h)
  have hX1 := cells_Listed_length x
  have hX2 := cells_Listed_one x
  obtain ⟨D, hD⟩ : ∃ D, D = (cur.take (n * 4)).drop (i * 4) := ⟨_, rfl⟩
  obtain ⟨X, hX⟩ : ∃ X, X = cells_Listed x := ⟨_, rfl⟩
  rw [← hD] at HIC hD1 hD2 HSRC
  rw [← hX] at HIC hX1 hX2 HXS HV
  have HD1 := Lib.hid hD1
  have HD2 := Lib.hid hD2
  have HX1 := Lib.hid hX1
  have HX2 := Lib.hid hX2
  have HL1 : Hid ((splice cur ((i + 1) * 4) D).length = c * 4) := Lib.hid (by rw [length_splice _ _ _ (by omega), hcl])
  have HL2 : Hid ((splice (splice cur ((i + 1) * 4) D) (i * 4) X).length = c * 4) := Lib.hid (by rw [length_splice _ _ _ (by rw [HL1.out]; omega), HL1.out])
  clear hg hv hcl htk hln hD hX hD1 hD2 hX1 hX2
  go_enter Try.func50, Try.ntmps50
  go_wp2_with (simp only [hov])
  go_region_law (refine step_copyS rfl _ _ 24 24 rfl 32 4 Try.underlying24 hsz b ((i + 1) * 4) (n - i) (c - (i + 1)) ⟨b, i * 4, none⟩ (n + 1 - i) (c - i) (by simp [Act.eval, Act.put]) (by simp [Act.eval, Act.put]) cur 32 HG.out D (by rw [HD1.out]; congr 1; simp only [Nat.min_def]; split <;> omega) (HSRC.out _ HG.out) (by rw [HD1.out, HCL.out]; omega) HD2.out ?_; intro w2 HG2 gr2; have HV2 := Lib.hid ((gr2.block vb (Array.getElem?_eq_some_iff.1 HV.out).1 (fun e => hvb (by simpa using e))).trans HV.out); have GR2 := Lib.hid (undrew_grown gr2); clear gr2)
  go_wp2_with ((with_reducible change wpList _ _ _ (⟨_, Op.call { callee := Callee.builtin Builtin.copy, args := _, argTypes := _ }, _, _, _, _⟩ :: _) _ _); (refine wpList_copyS rfl _ _ 24 24 rfl 32 4 Try.underlying24 hsz b (i * 4) (n + 1 - i) (c - i) ⟨vb, 0, none⟩ 1 1 rfl rfl (splice cur ((i + 1) * 4) D) 32 HG2.out X (by rw [HX1.out]; simp only [Nat.min_def]; split <;> omega) (HXS.out _ HV2.out) (by rw [HX1.out, HL1.out]; omega) HX2.out ?_; intro w3 HG3 gr3; have GR3 := Lib.hid (grown_trans GR2.out gr3); clear gr3))
  go_ret
  exact ⟨_, rfl, HG3.out, by simpa using HL2.out, HIC.out, GR3.out⟩
set_option maxRecDepth 100000 in
set_option maxHeartbeats 4000000 in
/-- slices.Insert: no room, i < len(s). -/
theorem ins_grow (l : LZ) (x : ByteArray × Int × Int × Int) (i n b vb : Nat) (cur : List Value) (w : World) (hln : l.length = n) (hi : i < n) (hn : n ≤ 1048577)
    (hg : w.heap[b]? = some (.cells cur.toArray 32 (0, 0))) (htk : cur.take (n * 4) = row_Listed l) (hv : w.heap[vb]? = some (.cells (cells_Listed x).toArray 32 (0, 0))) :
    Calls Try.prog 50 #[.slice (some ⟨b, 0, none⟩) n n, .int .i64 i, .slice (some ⟨vb, 0, none⟩) 1 1] w fun e w' =>
      ∃ v', e = .returned v' ∧ w'.ownsRow w.heap.size 32 4 v' (n + 1) (row_Listed (insAt l i x)) ∧ Below w.heap.size w w' := by
  obtain ⟨i0, hi0, hz0, hzs, hzb⟩ := info_parts info_Listed
  have hsz : (Try.prog.info? 32).map (·.size) = some 4 := by kernel_rfl
  have hbw : b < w.heap.size := (Array.getElem?_eq_some_iff.1 hg).1
  have hvw : vb < w.heap.size := (Array.getElem?_eq_some_iff.1 hv).1
  have hkk : (n : Int) + 1 - (i : Int) = ((n + 1 - i : Nat) : Int) := by omega
  have hik : i + (n + 1 - i) = n + 1 := by omega
  have hrl : (row_Listed l).length = n * 4 := by rw [row_Listed_length, hln]
  have hcl : n * 4 ≤ cur.length := by rw [← hrl, ← htk, List.length_take]; omega
  have hct : cur.take (i * 4) = (row_Listed l).take (i * 4) := by rw [← htk, List.take_take, Nat.min_eq_left (by omega)]
  have hcl4 : (cur.take (i * 4)).length = i * 4 := by rw [List.length_take]; omega
  have hold : (Builtin.firstCells i0.size i (.slice (some ⟨b, 0, none⟩) i n)).run Try.prog w.drew = .ok (cur.take (i * 4)).toArray w.drew := by
    rw [hzs]
    exact run_firstCells_some w.drew 4 i ⟨b, 0, none⟩ i n (cur.take (i * 4)) hcl4 (fun j v hj => row_src (W := w.drew) hg 0 (i * 4) j v (by simpa using hj))
  obtain ⟨z, hz⟩ : ∃ z, z = Value.agg #[.string ⟨#[]⟩, .int .i64 0, .int .i64 0, .int .i64 0] := ⟨_, rfl⟩
  have hzc : z.cells.size = 4 := by rw [hz]; rfl
  rw [← hz] at hz0
  obtain ⟨G, hG⟩ : ∃ G, G = grownCap w (n + 1) n 32 := ⟨_, rfl⟩
  obtain ⟨Z, hZ⟩ : ∃ Z : List Value, Z = ((cur.take (i * 4)).toArray ++ Builtin.zeroCells z.cells (n + 1 - i) ++ Builtin.zeroCells z.cells (G - (n + 1))).toList := ⟨_, rfl⟩
  obtain ⟨W1, hW1⟩ : ∃ W1, W1 = w.drew.alloc (.cells Z.toArray 32) := ⟨_, rfl⟩
  have hGn : n + 1 ≤ G := by rw [hG]; exact grownCap_ge w _ _ _
  have hGm : G ≤ maxLen := by rw [hG]; exact grownCap_le_maxLen w _ _ _ (by unfold maxLen; omega)
  have hG63 : G ≤ 9223372036854775807 := by unfold maxLen at hGm; omega
  have hrz : ∀ ty, (Builtin.append_ #[24, 3] ty #[.slice (some ⟨b, 0, none⟩) i n, .int .i64 ((n : Int) + 1 - (i : Int))]).run Try.prog w = .ok (.slice (some ⟨w.heap.size, 0, none⟩) (n + 1) G) W1 := fun ty => by
    have h := Lib.run_append_grow_zeros w 24 3 ty 32 i0 z .i64 .i64 Try.underlying24 Try.underlying3 hi0 hz0 (some ⟨b, 0, none⟩) i n (cur.take (i * 4)) hold (n + 1 - i) (by omega) (by omega) (by omega) (by omega) (by rw [hzb]; omega) (by rw [hzb, hik]; exact growslice_fits (by omega) (by omega))
    rw [hik, ← hG] at h
    rw [hkk, hW1, hZ, Array.toArray_toList]
    exact h
  have hZL : Z.length = G * 4 := by
    rw [hZ]
    simp [Builtin.zeroCells, hzc]
    omega
  have hZT : Z.take (i * 4) = (row_Listed l).take (i * 4) := by
    rw [hZ, ← hct]
    simp only [Array.toList_append, List.append_assoc]
    rw [List.take_left' (by rw [hcl4])]
  have HG1 : Hid (W1.heap[w.heap.size]? = some (.cells Z.toArray 32 (0, 0))) := Lib.hid (by rw [hW1]; exact heap_alloc_new w.drew _)
  have hB1 : Below w.heap.size w W1 := by rw [hW1]; exact ((Below.refl w.heap.size w).drew).alloc (Nat.le_refl _) _
  have HB1 := Lib.hid hB1
  have HCB := Lib.hid ((hB1.block b hbw).trans hg)
  have HVB := Lib.hid ((hB1.block vb hvw).trans hv)
  have HIC := Lib.hid (grow_cells l x i n Z hln (by omega) (by omega) hZT)
  have hD1 : ((row_Listed l).drop (i * 4)).length = (n - i) * 4 := by rw [List.length_drop, hrl]; omega
  have hD2 : ∀ v ∈ (row_Listed l).drop (i * 4), v.oneCell' = true := fun v h => row_Listed_one l v (List.mem_of_mem_drop h)
  have HSRC : Hid (∀ W : World, W.heap[b]? = some (.cells cur.toArray 32 (0, 0)) → ∀ j v, ((row_Listed l).drop (i * 4))[j]? = some v → W.cell? ((⟨b, i * 4, none⟩ : Addr).add j) = some v) := Lib.hid (fun W h j v hj => row_src (W := W) h (i * 4) (n * 4) j v (by rw [htk]; exact hj))
  have HXS := Lib.hid (fun W h => blk_cells (W := W) (g := vb) (x := x) (t := 32) h)
  have hX1 := cells_Listed_length x
  have hX2 := cells_Listed_one x
  have hRL : (row_Listed (insAt l i x)).length = (n + 1) * 4 := by rw [row_Listed_length, insAt_length (by omega), hln]
  obtain ⟨D, hD⟩ : ∃ D, D = (row_Listed l).drop (i * 4) := ⟨_, rfl⟩
  obtain ⟨X, hX⟩ : ∃ X, X = cells_Listed x := ⟨_, rfl⟩
  rw [← hD] at HIC hD1 hD2 HSRC
  rw [← hX] at HIC hX1 hX2 HXS HVB
  have HD1 := Lib.hid hD1
  have HD2 := Lib.hid hD2
  have HX1 := Lib.hid hX1
  have HX2 := Lib.hid hX2
  have HZL := Lib.hid hZL
  have HRL := Lib.hid hRL
  have HGM := Lib.hid hGm
  have HL1 : Hid ((splice Z (i * 4) X).length = G * 4) := Lib.hid (by rw [length_splice _ _ _ (by omega), hZL])
  have HL2 : Hid ((splice (splice Z (i * 4) X) ((i + 1) * 4) D).length = G * 4) := Lib.hid (by rw [length_splice _ _ _ (by rw [HL1.out]; omega), HL1.out])
  have hz2 : ¬ ((i : Int) = (n : Int)) := by omega
  have hz3 : (n : Int) < (n : Int) + 1 := by omega
  have hw1 : IntKind.i64.wrap ((i : Int) + 1) = (i : Int) + 1 := by rw [IntKind.wrap_i64]; omega
  have hb1 : (0 : Int) ≤ (i : Int) + 1 := by omega
  have hin : i ≤ n := by omega
  have htn : ((i : Int) + 1).toNat = i + 1 := by omega
  have hb3 : (i : Int) ≤ (n : Int) := by omega
  have hGi : ¬ (G = i) := by omega
  have hGim : ¬ (G = i + 1) := by omega
  have hci : ¬ (n = i) := by omega
  have HBN : Hid (b ≠ w.heap.size ∧ vb ≠ w.heap.size) := Lib.hid ⟨by omega, by omega⟩
  clear hkk hik hold hZ hZL hZT hW1 hB1 hg hv hD hX hD1 hD2 hX1 hX2 hrl hcl hct hcl4 htk hln hG hGm hRL hz hzc hbw hvw
  go_enter Try.func50, Try.ntmps50
  go_wp2_with (first | (at_builtin; refine Lib.wpList_append_run _ rfl _ _ _ _ rfl _ _ rfl rfl _ _ (hrz _) ?_) | ((with_reducible change wpList _ _ _ (⟨_, Op.call { callee := Callee.builtin Builtin.copy, args := _, argTypes := _ }, _, _, _, _⟩ :: _) _ _); go_loud (refine wpList_copyS rfl _ _ 24 24 rfl 32 4 Try.underlying24 hsz w.heap.size (i * 4) (n + 1 - i) (G - i) ⟨vb, 0, none⟩ 1 1 rfl rfl Z 32 HG1.out X (by rw [HX1.out]; simp only [Nat.min_def]; split <;> omega) (HXS.out _ HVB.out) (by rw [HX1.out, HZL.out]; omega) HX2.out ?_; intro w2 HG2 gr2; have HC2 := Lib.hid ((gr2.block b (Array.getElem?_eq_some_iff.1 HCB.out).1 (fun e => HBN.out.1 (by simpa using e))).trans HCB.out); have GR2 := Lib.hid gr2; clear gr2)))
  go_region_law (refine step_copyS rfl _ _ 24 24 rfl 32 4 Try.underlying24 hsz w.heap.size ((i + 1) * 4) (n - i) (G - (i + 1)) ⟨b, i * 4, none⟩ (n - i) (n - i) (by simp [Act.eval, Act.put]) (by simp [Act.eval, Act.put]) (splice Z (i * 4) X) 32 HG2.out D (by rw [HD1.out]; congr 1; simp only [Nat.min_def]; split <;> omega) (HSRC.out _ HC2.out) (by rw [HD1.out, HL1.out]; omega) HD2.out ?_; intro w3 HG3 gr3; have GR3 := Lib.hid (grown_trans GR2.out (undrew_grown gr3)); clear gr3)
  go_wp2
  go_ret
  exact ⟨_, rfl, ⟨HRL.out, Or.inr ⟨w.heap.size, G, _, rfl, Nat.le_refl _, HG3.out, hGn, HGM.out, by simpa using HL2.out, by simpa using HIC.out⟩⟩, HB1.out.grown GR3.out HB1.out.size (fun k hk => by cases hk; exact Nat.le_refl _)⟩

set_option maxRecDepth 100000 in
set_option maxHeartbeats 4000000 in
/-- slices.Insert at the end. -/
theorem ins_end (l : LZ) (x : ByteArray × Int × Int × Int) (n base vb : Nat) (v : Value) (w : World) (hln : l.length = n) (hn : n ≤ 1048577) (hb : base ≤ w.heap.size)
    (ho : w.ownsRow base 32 4 v n (row_Listed l)) (hv : w.heap[vb]? = some (.cells (cells_Listed x).toArray 32 (0, 0))) :
    Calls Try.prog 50 #[v, .int .i64 n, .slice (some ⟨vb, 0, none⟩) 1 1] w fun e w' =>
      ∃ v', e = .returned v' ∧ w'.ownsRow base 32 4 v' (n + 1) (row_Listed (insAt l n x)) ∧ Below base w w' := by
  obtain ⟨i0, hi, hz0, hz1, hz2⟩ := info_parts info_Listed
  have hR : row_Listed (insAt l n x) = row_Listed l ++ cells_Listed x := by
    rw [row_ins l x n (by omega), List.take_of_length_le (by rw [row_Listed_length]; omega), List.drop_eq_nil_of_le (by rw [row_Listed_length]; omega), List.append_nil]
  have HR := Lib.hid hR
  have HX := Lib.hid (blk4 (x := x) (show w.heap[vb]? = some (.cells #[.string x.1, .int .i64 x.2.1, .int .i64 x.2.2.1, .int .i64 x.2.2.2] 32 (0, 0)) from hv))
  have HO := Lib.hid ho
  have HBV : Hid (∀ w', w.grownBy w' v.ownBlock → Below base w w') := Lib.hid (fun w' h => below_ownV (Below.refl base w) h ho (Nat.le_refl _) hb)
  have HX2 := Lib.hid (cells_Listed_one x)
  obtain ⟨R, hRR⟩ : ∃ R, R = row_Listed (insAt l n x) := ⟨_, rfl⟩
  rw [← hRR] at HR ⊢
  have hform : (v = .slice none 0 0 ∧ n = 0) ∨ ∃ g c, v = .slice (some ⟨g, 0, none⟩) n c ∧ n ≤ c ∧ c ≤ 9223372036854775807 := by
    rcases ho.2 with h | ⟨g, cap, cur, rfl, -, -, h1, h2, -⟩
    · exact Or.inl h
    · exact Or.inr ⟨g, cap, rfl, h1, by unfold maxLen at h2; omega⟩
  clear hR hv ho hRR hln
  rcases hform with ⟨rfl, rfl⟩ | ⟨g, c, rfl, hnc, hc63⟩
  · go_enter Try.func50, Try.ntmps50
    go_wp2_with (at_builtin; refine appendV_reads _ rfl _ _ 24 rfl base 32 i0 (.agg #[.string ⟨#[]⟩, .int .i64 0, .int .i64 0, .int .i64 0]) 4 40 Try.underlying24 hi hz0 hz1 hz2 rfl (by decide) _ 0 _ rfl HO.out (some ⟨vb, 0, none⟩) 1 1 (cells_Listed x) rfl rfl HX2.out (fun e => by cases e) HX.out (by omega) (by omega) hb ?_; intro v2 w2 hown hgrow; have HO2 := Lib.hid hown; have HB2 := Lib.hid (HBV.out _ hgrow); clear hown hgrow)
    go_ret
    exact ⟨_, rfl, by rw [HR.out]; exact HO2.out, HB2.out⟩
  · by_cases hcn : c = n
    · subst hcn
      go_enter Try.func50, Try.ntmps50
      go_wp2_with (at_builtin; refine appendV_reads _ rfl _ _ 24 rfl base 32 i0 (.agg #[.string ⟨#[]⟩, .int .i64 0, .int .i64 0, .int .i64 0]) 4 40 Try.underlying24 hi hz0 hz1 hz2 rfl (by decide) _ c _ rfl HO.out (some ⟨vb, 0, none⟩) 1 1 (cells_Listed x) rfl rfl HX2.out (fun e => by cases e) HX.out (by omega) (by omega) hb ?_; intro v2 w2 hown hgrow; have HO2 := Lib.hid hown; have HB2 := Lib.hid (HBV.out _ hgrow); clear hown hgrow)
      go_ret
      exact ⟨_, rfl, by rw [HR.out]; exact HO2.out, HB2.out⟩
    · go_enter Try.func50, Try.ntmps50
      go_wp2_with (at_builtin; refine appendV_reads _ rfl _ _ 24 rfl base 32 i0 (.agg #[.string ⟨#[]⟩, .int .i64 0, .int .i64 0, .int .i64 0]) 4 40 Try.underlying24 hi hz0 hz1 hz2 rfl (by decide) _ n _ rfl HO.out (some ⟨vb, 0, none⟩) 1 1 (cells_Listed x) rfl rfl HX2.out (fun e => by cases e) HX.out (by omega) (by omega) hb ?_; intro v2 w2 hown hgrow; have HO2 := Lib.hid hown; have HB2 := Lib.hid (HBV.out _ hgrow); clear hown hgrow)
      go_ret
      exact ⟨_, rfl, by rw [HR.out]; exact HO2.out, HB2.out⟩

/-- slices.Insert of one element into a list of the call's own. -/
theorem ins_any (l : LZ) (x : ByteArray × Int × Int × Int) (i n base vb : Nat) (v : Value) (w : World) (hln : l.length = n) (hi : i ≤ n) (hn : n ≤ 1048576) (hb : base ≤ w.heap.size)
    (ho : w.ownsRow base 32 4 v n (row_Listed l)) (hvb : v.ownBlock ≠ some vb) (hv : w.heap[vb]? = some (.cells (cells_Listed x).toArray 32 (0, 0))) :
    Calls Try.prog 50 #[v, .int .i64 i, .slice (some ⟨vb, 0, none⟩) 1 1] w fun e w' =>
      ∃ v', e = .returned v' ∧ w'.ownsRow base 32 4 v' (n + 1) (row_Listed (insAt l i x)) ∧ Below base w w' := by
  by_cases hin : i = n
  · subst hin
    exact ins_end l x i base vb v w hln (by omega) hb ho hv
  · rcases ho.2 with ⟨rfl, h0⟩ | ⟨g, cap, cur, rfl, hbg, hg, h1, h2, h3, h4⟩
    · omega
    · have hcu : cur = cur.toList.toArray := by simp
      rw [hcu] at hg
      by_cases hroom : n + 1 ≤ cap
      · refine (ins_room l x i n cap g vb cur.toList w hln (by omega) hroom (by unfold maxLen at h2; omega) (fun e => hvb (by rw [e]; rfl)) hn hg (by simpa using h3) h4 hv).mono ?_
        rintro e w' ⟨cur', rfl, k1, k2, k3, k4⟩
        refine ⟨_, rfl, ⟨?_, Or.inr ⟨g, cap, cur', rfl, hbg, k1, hroom, h2, k2, k3⟩⟩, (Below.refl base w).grown k4 hb (fun k hk => by cases hk; exact hbg)⟩
        rw [row_Listed_length, insAt_length (by omega), hln]
      · obtain rfl : cap = n := by omega
        refine (ins_grow l x i cap g vb cur.toList w hln (by omega) (by omega) hg h4 hv).mono ?_
        rintro e w' ⟨v', rfl, k1, k2⟩
        exact ⟨v', rfl, own_wideV k1 hb, k2.mono hb⟩
end Go.Proofs.Ytcpojeiciaghmaa
