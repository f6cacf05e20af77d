/-
  The model's contract of AddWord.
-/
import Derived.Test.YtcpojeiciaghmaaEndWord
import Derived.Test.YtcpojeiciaghmaaValsStep
import Derived.BigQuiet
import Derived.Deep.RegionHeld3
import Derived.Deep.RegionLaw
import Derived.Deep.DeepCutAuto
import Derived.Deep.CutRange
import Derived.Handy
namespace Go.Proofs.Ytcpojeiciaghmaa
open Go.RowKit

/-- Where AddWord puts a word. -/
def posW (l : List (ByteArray × Int × Int × Int)) (x : ByteArray) : Nat := l.findIdx fun y => !befW y.1 x
def insW (l : List (ByteArray × Int × Int × Int)) (x : ByteArray × Int × Int × Int) : List (ByteArray × Int × Int × Int) := l.take (posW l x.1) ++ [x] ++ l.drop (posW l x.1)
/-- What AddWord answers. -/
def addW (l : List (ByteArray × Int × Int × Int)) (x : ByteArray × Int × Int × Int) : List (ByteArray × Int × Int × Int) × Bool :=
  if 0 ≤ findL l x.1 then (l, false) else if islW (insW l x) = true then (insW l x, true) else (l, false)
theorem srcB {W W' : World} {a0 : Option Addr} {s n cap : Nat} {xs : List Value} (h : ReadsV W.heap.size W (.slice a0 n cap) s n xs) (hb : Below W.heap.size W W') : ∀ j, j < n * s → ∃ b off, a0 = some ⟨b, off, none⟩ ∧ W'.cell? ⟨b, off + j, none⟩ = xs[j]? := by
  obtain ⟨-, -, a1, c1, e, -, h⟩ := h.later hb
  cases e
  intro j hj
  obtain ⟨b, off, e1, -, e3⟩ := h j hj
  exact ⟨b, off, e1, e3⟩
theorem srcTake {W : World} {a0 : Option Addr} {k n s : Nat} {xs : List Value} (h : ∀ j, j < n * s → ∃ b off, a0 = some ⟨b, off, none⟩ ∧ W.cell? ⟨b, off + j, none⟩ = xs[j]?) (hk : k ≤ n) : ∀ j, j < k * s → ∃ b off, a0 = some ⟨b, off, none⟩ ∧ W.cell? ⟨b, off + j, none⟩ = (xs.take (k * s))[j]? := fun j hj => by
  obtain ⟨b, off, e1, e2⟩ := h j (Nat.lt_of_lt_of_le hj (Nat.mul_le_mul_right s hk))
  exact ⟨b, off, e1, by rw [e2, List.getElem?_take, if_pos hj]⟩
theorem srcDrop {W : World} {b off k n s : Nat} {xs : List Value} (h : ∀ j, j < n * s → ∃ b' off', some (⟨b, off, none⟩ : Addr) = some ⟨b', off', none⟩ ∧ W.cell? ⟨b', off' + j, none⟩ = xs[j]?) (hk : k ≤ n) : ∀ j, j < (n - k) * s → ∃ b' off', some (⟨b, off + k * s, none⟩ : Addr) = some ⟨b', off', none⟩ ∧ W.cell? ⟨b', off' + j, none⟩ = (xs.drop (k * s))[j]? := fun j hj => by
  have h2 : (n - k) * s + k * s = n * s := by rw [← Nat.add_mul]; congr 1; omega
  obtain ⟨b', off', e1, e2⟩ := h (k * s + j) (by omega)
  cases e1
  exact ⟨b, off + k * s, rfl, by rw [Nat.add_assoc, e2, List.getElem?_drop]⟩
theorem one4 (w : World) (x : ByteArray × Int × Int × Int) (t : TypeId) : ∀ j, j < 1 * 4 → ∃ b off, some (⟨w.heap.size, 0, none⟩ : Addr) = some ⟨b, off, none⟩ ∧ (w.alloc (.cells #[.string x.1, .int .i64 x.2.1, .int .i64 x.2.2.1, .int .i64 x.2.2.2] t)).cell? ⟨b, off + j, none⟩ = (cells_Listed x)[j]? := fun j hj => by
  refine ⟨_, _, rfl, ?_⟩
  rw [Nat.zero_add, cell_of_row _ w.heap.size j _ t (0, 0) (heap_alloc_new w _)]
  simp [cells_Listed]
theorem blk4 {W : World} {g : Nat} {x : ByteArray × Int × Int × Int} {t : TypeId} (h : W.heap[g]? = some (.cells #[.string x.1, .int .i64 x.2.1, .int .i64 x.2.2.1, .int .i64 x.2.2.2] t (0, 0))) : ∀ j, j < 1 * 4 → ∃ b off, some (⟨g, 0, none⟩ : Addr) = some ⟨b, off, none⟩ ∧ W.cell? ⟨b, off + j, none⟩ = (cells_Listed x)[j]? := fun j hj => by
  refine ⟨_, _, rfl, ?_⟩
  rw [Nat.zero_add, cell_of_row _ g j _ t (0, 0) h]
  simp [cells_Listed]
/-- A new empty row, then a new block, or the other way round. -/
theorem own_then (W : World) (t : TypeId) (o : Obj) : ((W.alloc (.cells #[] t)).alloc o).ownsRow W.heap.size t 4 (.slice (some ⟨W.heap.size, 0, none⟩) 0 0) 0 [] ∧ ((W.alloc (.cells #[] t)).alloc o).heap[W.heap.size + 1]? = some o ∧ Below W.heap.size W ((W.alloc (.cells #[] t)).alloc o) := by
  refine ⟨(own_emptyV W t 4).alloc o, ?_, ((Below.refl _ _).alloc (Nat.le_refl _) _).alloc (by simp) _⟩
  have h := heap_alloc_new (W.alloc (.cells #[] t)) o
  rwa [show (W.alloc (.cells #[] t)).heap.size = W.heap.size + 1 by simp] at h
theorem own_behind (W : World) (t : TypeId) (o : Obj) : ((W.alloc o).alloc (.cells #[] t)).ownsRow W.heap.size t 4 (.slice (some ⟨W.heap.size + 1, 0, none⟩) 0 0) 0 [] ∧ ((W.alloc o).alloc (.cells #[] t)).heap[W.heap.size]? = some o ∧ Below W.heap.size W ((W.alloc o).alloc (.cells #[] t)) := by
  have h1 := own_emptyV (W.alloc o) t 4
  rw [show (W.alloc o).heap.size = W.heap.size + 1 by simp] at h1
  refine ⟨own_wideV h1 (by omega), ?_, ((Below.refl _ _).alloc (Nat.le_refl _) _).alloc (by simp) _⟩
  exact (Below.heap_alloc (W.alloc o) _ W.heap.size (by simp)).trans (heap_alloc_new W o)
theorem below_ownV {B base : Nat} {a w w' : World} {e : TypeId} {v : Value} {n s : Nat} {xs : List Value} (h : Below B a w) (hg : w.grownBy w' v.ownBlock) (ho : w.ownsRow base e s v n xs) (hB : B ≤ base) (hw : B ≤ w.heap.size) : Below B a w' :=
  h.grown hg hw (fun k hk => Nat.le_trans hB (ho.lt k hk).1)
theorem lrow_take (l : List (ByteArray × Int × Int × Int)) (k : Nat) (h : k ≤ l.length) : row_Listed (l.take k) = (row_Listed l).take (k * 4) := by
  conv => rhs; rw [← List.take_append_drop k l, row_Listed_append]
  rw [List.take_left' (by rw [row_Listed_length, List.length_take, Nat.min_eq_left h])]
theorem lrow_drop (l : List (ByteArray × Int × Int × Int)) (k : Nat) (h : k ≤ l.length) : row_Listed (l.drop k) = (row_Listed l).drop (k * 4) := by
  conv => rhs; rw [← List.take_append_drop k l, row_Listed_append]
  rw [List.drop_left' (by rw [row_Listed_length, List.length_take, Nat.min_eq_left h])]
theorem posW_end {l : List (ByteArray × Int × Int × Int)} {x : ByteArray} (h : ∀ j, j < l.length → befW (l.getD j none_Listed).1 x = true) : posW l x = l.length := by
  unfold posW
  rw [List.findIdx_eq_length]
  intro y hy
  obtain ⟨j, hj, rfl⟩ := List.mem_iff_getElem.1 hy
  have := h j hj
  rw [List.getD_eq_getElem?_getD, List.getElem?_eq_getElem hj] at this
  simpa using this
theorem posW_at {l : List (ByteArray × Int × Int × Int)} {x : ByteArray} {k : Nat} (hk : k < l.length) (h : ∀ j, j < k → befW (l.getD j none_Listed).1 x = true) (h2 : befW (l.getD k none_Listed).1 x = false) : posW l x = k := by
  unfold posW
  rw [List.findIdx_eq hk]
  refine ⟨by rw [List.getD_eq_getElem?_getD, List.getElem?_eq_getElem hk] at h2; simpa using h2, fun j hj => ?_⟩
  have := h j hj
  rw [List.getD_eq_getElem?_getD, List.getElem?_eq_getElem (by omega)] at this
  simpa using this
theorem insW_length (l : List (ByteArray × Int × Int × Int)) (x : ByteArray × Int × Int × Int) (k : Nat) (h : k ≤ l.length) : (l.take k ++ [x] ++ l.drop k).length = l.length + 1 := by simp; omega
theorem ins_own {W : World} {B base k m : Nat} {e : TypeId} {v : Value} {l : List (ByteArray × Int × Int × Int)} {x : ByteArray × Int × Int × Int} {xs ys : List Value} (h : W.ownsRow base e 4 v (k + 1 + m) (xs ++ cells_Listed x ++ ys)) (hx : xs = row_Listed (l.take k)) (hy : ys = row_Listed (l.drop k)) (hm : k + m = l.length) (hB : B ≤ base) :
    W.ownsRow B e 4 v (l.length + 1) (row_Listed (l.take k ++ [x] ++ l.drop k)) := by
  subst hx hy
  rw [show k + 1 + m = l.length + 1 by omega] at h
  rw [row_Listed_append, row_Listed_append]
  have e2 : row_Listed [x] = cells_Listed x := by simp [row_Listed]
  rw [e2]
  exact own_wideV h hB
theorem box4 (w : World) (x : ByteArray) (f u s : Int) (t : TypeId) :
    (w.alloc (.cells #[.string x, .int .i64 f, .int .i64 u, .int .i64 s] t)).cell? ⟨w.heap.size, 0, none⟩ = some (.string x) ∧ (w.alloc (.cells #[.string x, .int .i64 f, .int .i64 u, .int .i64 s] t)).cell? ⟨w.heap.size, 1, none⟩ = some (.int .i64 f) ∧
    (w.alloc (.cells #[.string x, .int .i64 f, .int .i64 u, .int .i64 s] t)).cell? ⟨w.heap.size, 2, none⟩ = some (.int .i64 u) ∧ (w.alloc (.cells #[.string x, .int .i64 f, .int .i64 u, .int .i64 s] t)).cell? ⟨w.heap.size, 3, none⟩ = some (.int .i64 s) := by
  simp
set_option maxRecDepth 100000 in
set_option maxHeartbeats 1600000 in
theorem sadd_any (l : List (ByteArray × Int × Int × Int)) (x : ByteArray) (f u s : Int) (hl : l.length ≤ 1048576) (v : Value) (w : World) (hv : ReadsListed w.heap.size w v l) :
    Calls Try.prog 31 #[v, .agg #[.string x, .int .i64 f, .int .i64 u, .int .i64 s]] w fun e w' => ∃ v', e = .returned (.tuple #[v', .bool (addW l (x, f, u, s)).2]) ∧ w'.ownsRow w.heap.size 32 4 v' (addW l (x, f, u, s)).1.length (row_Listed (addW l (x, f, u, s)).1) ∧ Below w.heap.size w w' := by
  obtain ⟨i0, hi, hz0, hz1, hz2⟩ := info_parts info_Listed
  have HV := Lib.hid hv
  obtain ⟨-, a0, cap, rfl, hcap, hc⟩ := hv.cells
  have HC := Lib.hid hc
  have HCAP := Lib.hid hcap
  have hcl : l.length ≤ cap := hcap.2.1
  have hcm : cap ≤ 9223372036854775807 := hcap.2.2
  clear hc hv hcap
  go_enter Try.func31, Try.ntmps31
  go_wp2
  obtain ⟨W1, hW1⟩ : ∃ W1, W1 = w.alloc (.cells #[.string x, .int .i64 f, .int .i64 u, .int .i64 s] 32) := ⟨_, rfl⟩
  have HBOX := Lib.hid (box4 w x f u s 32)
  have HW : Hid (Below w.heap.size w W1) := Lib.hid (by rw [hW1]; exact (Below.refl _ _).alloc (Nat.le_refl _) _)
  have hws : W1.heap.size = w.heap.size + 1 := by rw [hW1]; simp
  rw [← hW1] at HBOX ⊢
  clear hW1
  go_loopw [6] (fun i wr => ∃ k : Nat, k ≤ l.length ∧ i = .int .i64 k ∧ Hid (∀ j, j < k → befW (l.getD j none_Listed).1 x = true) ∧ Below W1.heap.size W1 wr) (fun i _ => l.length - (intOf i).toNat)
  case atStart => exact ⟨0, Nat.zero_le _, rfl, Lib.hid (by omega), Below.refl _ _⟩
  case round =>
    obtain ⟨k, hk, rfl, HN, hbl⟩ := hrel
    by_cases hlt : k < l.length
    · obtain ⟨b, off, rfl, hb, q0, -, -, -⟩ := HC.out k hlt
      have HX : Hid ((l.getD k none_Listed).1 = (l.getD k none_Listed).1) := Lib.hid rfl
      obtain ⟨y, hy⟩ : ∃ y, y = (l.getD k none_Listed).1 := ⟨_, rfl⟩
      rw [← hy] at q0
      have e0 := ((HW.out.trans (hbl.mono (by omega))).cell (p := ⟨b, off + k * 4, none⟩) hb).trans q0
      have e1 := (hbl.cell (p := ⟨w.heap.size, 0, none⟩) (by show w.heap.size < _; omega)).trans HBOX.out.1
      obtain ⟨bb, hbb⟩ : ∃ bb, bb = befW y x := ⟨_, rfl⟩
      have HBW := Lib.hid (sbef_same y x)
      rw [← hbb] at HBW
      have HBB0 : Hid (befW (l.getD k none_Listed).1 x = bb) := Lib.hid (by rw [← hy, hbb])
      clear hy hbb q0 HX
      cases bb with
      | true =>
        have HN2 : Hid (∀ j, j < k + 1 → befW (l.getD j none_Listed).1 x = true) := Lib.hid (fun j hj => by
          rcases Nat.lt_or_ge j k with h | h
          · exact HN.out j h
          · obtain rfl : j = k := by omega
            exact HBB0.out)
        go_wp2
        go_quiet (first | (go_at_call 56; exact Calls.quiet_of_same ((HBW.out _).mono fun _ _ h => ⟨h.1, h.2.symm⟩)))
        all_goals go_wp2
        go_roundw
        case rel => exact ⟨k + 1, by omega, by go_num, HN2, below_drewN hbl _⟩
        case measure => simp [intOf]; omega
      | false =>
        have HPOS : Hid (posW l x = k) := Lib.hid (posW_at hlt HN.out HBB0.out)
        have hck : ¬ cap = k := by omega
        have hki : (k : Int) ≤ (cap : Int) := by omega
        have hki2 : (k : Int) ≤ (l.length : Int) := by omega
        have hki3 : (0 : Int) ≤ (k : Int) := by omega
        go_wp2
        go_quiet (first | (go_at_call 56; exact Calls.quiet_of_same ((HBW.out _).mono fun _ _ h => ⟨h.1, h.2.symm⟩)))
        go_upto_region 4 with (fail)
        obtain ⟨W2, hW2⟩ : ∃ W2, W2 = wr.drewN nq := ⟨_, rfl⟩
        have hB2 : Below W1.heap.size W1 W2 := by rw [hW2]; exact below_drewN hbl _
        have hB0 : Below w.heap.size w W2 := HW.out.trans (hB2.mono (by omega))
        have hws2 : w.heap.size ≤ W2.heap.size := hB0.size
        rw [← hW2]
        have c0 := (hB2.cell (p := ⟨w.heap.size, 0, none⟩) (by show w.heap.size < _; omega)).trans HBOX.out.1
        have c1 := (hB2.cell (p := ⟨w.heap.size, 1, none⟩) (by show w.heap.size < _; omega)).trans HBOX.out.2.1
        have c2 := (hB2.cell (p := ⟨w.heap.size, 2, none⟩) (by show w.heap.size < _; omega)).trans HBOX.out.2.2.1
        have c3 := (hB2.cell (p := ⟨w.heap.size, 3, none⟩) (by show w.heap.size < _; omega)).trans HBOX.out.2.2.2
        have HKP : Hid (∀ w', Below W2.heap.size W2 w' → w'.cell? ⟨w.heap.size, 0, none⟩ = some (.string x) ∧ w'.cell? ⟨w.heap.size, 1, none⟩ = some (.int .i64 f) ∧ w'.cell? ⟨w.heap.size, 2, none⟩ = some (.int .i64 u) ∧ w'.cell? ⟨w.heap.size, 3, none⟩ = some (.int .i64 s)) := Lib.hid (fun w' h => ⟨(h.cell (p := ⟨w.heap.size, 0, none⟩) (by show w.heap.size < _; have := hB2.size; omega)).trans c0, (h.cell (p := ⟨w.heap.size, 1, none⟩) (by show w.heap.size < _; have := hB2.size; omega)).trans c1, (h.cell (p := ⟨w.heap.size, 2, none⟩) (by show w.heap.size < _; have := hB2.size; omega)).trans c2, (h.cell (p := ⟨w.heap.size, 3, none⟩) (by show w.heap.size < _; have := hB2.size; omega)).trans c3⟩)
        clear hW2 hbl
        have HST : Hid (∀ X, Below w.heap.size w X → ∀ j, j < k * 4 → ∃ b' off', some (⟨b, off, none⟩ : Addr) = some ⟨b', off', none⟩ ∧ X.cell? ⟨b', off' + j, none⟩ = (row_Listed (l.take k))[j]?) := Lib.hid (fun X h => by rw [lrow_take l k hk]; exact srcTake (srcB HV.out h) hk)
        have HSD : Hid (∀ X, Below w.heap.size w X → ∀ j, j < (l.length - k) * 4 → ∃ b' off', some (⟨b, off + k * 4, none⟩ : Addr) = some ⟨b', off', none⟩ ∧ X.cell? ⟨b', off' + j, none⟩ = (row_Listed (l.drop k))[j]?) := Lib.hid (fun X h => by rw [lrow_drop l k hk]; exact srcDrop (srcB HV.out h) hk)
        clear e0 e1
        go_cut [7] (fun s7 wx => Hid (wx.ownsRow w.heap.size 32 4 s7 (l.length + 1) (row_Listed (l.take k ++ [(x, f, u, s)] ++ l.drop k))) ∧ Below W1.heap.size W1 wx)
        case first =>
            have FA := Lib.hid trivial
            go_region_held3 (fun w' => w'.cell? ⟨w.heap.size, 0, none⟩ = some (.string x) ∧ w'.cell? ⟨w.heap.size, 1, none⟩ = some (.int .i64 f) ∧ w'.cell? ⟨w.heap.size, 2, none⟩ = some (.int .i64 u) ∧ w'.cell? ⟨w.heap.size, 3, none⟩ = some (.int .i64 s)) (first | exact ⟨c0, c1, c2, c3⟩ | exact HKP.out _ HBC.out | exact HKP.out _ HBB.out | exact HKP.out _ (HBA.out.alloc HBA.out.size _) | exact HKP.out _ HBA.out | exact HKP.out _ (by go_grown)) (first | (have FG := FA; refine step_appendV rfl (.tmp 24) (.tmp 27) 24 rfl W2.heap.size 32 i0 (.agg #[.string ⟨#[]⟩, .int .i64 0, .int .i64 0, .int .i64 0]) 4 40 Try.underlying24 hi hz0 hz1 hz2 rfl (by decide) _ _ _ rfl (own_emptyV W2 32 4).drew _ _ _ (row_Listed (l.take k)) rfl (by rw [row_Listed_length, List.length_take, Nat.min_eq_left hk]) (row_Listed_one _) (fun e => by cases e) (HST.out _ (by first | exact hB0.trans (OT.out.2.2.drew.mono hws2) | go_grown)) (by omega) (by omega) ((Below.refl W2.heap.size W2).alloc (Nat.le_refl _) (.cells #[] 32)).drew.size ?_; intro v2 w3 hown2 hgrow2; rw [Nat.zero_add, List.nil_append] at hown2; have HBA := Lib.hid (below_ownV ((Below.refl W2.heap.size W2).alloc (Nat.le_refl _) (.cells #[] 32)).drew hgrow2 (own_emptyV W2 32 4).drew (Nat.le_refl _) ((Below.refl W2.heap.size W2).alloc (Nat.le_refl _) (.cells #[] 32)).drew.size); have FB1 := Lib.hid trivial; have HOA := Lib.hid hown2; clear FA FG hown2 hgrow2) | (have FG := FA; have OT := Lib.hid (own_then W2 32 (.cells #[.string x, .int .i64 f, .int .i64 u, .int .i64 s] 32)); refine step_appendV rfl (.tmp 24) (.tmp 27) 24 rfl W2.heap.size 32 i0 (.agg #[.string ⟨#[]⟩, .int .i64 0, .int .i64 0, .int .i64 0]) 4 40 Try.underlying24 hi hz0 hz1 hz2 rfl (by decide) _ _ _ rfl OT.out.1.drew _ _ _ (row_Listed (l.take k)) rfl (by rw [row_Listed_length, List.length_take, Nat.min_eq_left hk]) (row_Listed_one _) (fun e => by cases e) (HST.out _ (by first | exact hB0.trans (OT.out.2.2.drew.mono hws2) | go_grown)) (by omega) (by omega) OT.out.2.2.drew.size ?_; intro v2 w3 hown2 hgrow2; rw [Nat.zero_add, List.nil_append] at hown2; have HBA := Lib.hid (below_ownV OT.out.2.2.drew hgrow2 OT.out.1.drew (Nat.le_refl _) OT.out.2.2.drew.size); have HS30 := Lib.hid ((hgrow2.block (W2.heap.size + 1) (by simp) (fun e => by have e2 : some (W2.heap.size + 1) = some W2.heap.size := e; simp at e2)).trans OT.out.2.1); have FB2 := Lib.hid trivial; have HOA := Lib.hid hown2; clear FA FG hown2 hgrow2) | (have FG := FA; have OT := Lib.hid (own_behind W2 32 (.cells #[.string x, .int .i64 f, .int .i64 u, .int .i64 s] 32)); refine step_appendV rfl (.tmp 24) (.tmp 27) 24 rfl W2.heap.size 32 i0 (.agg #[.string ⟨#[]⟩, .int .i64 0, .int .i64 0, .int .i64 0]) 4 40 Try.underlying24 hi hz0 hz1 hz2 rfl (by decide) _ _ _ rfl OT.out.1.drew _ _ _ (row_Listed (l.take k)) rfl (by rw [row_Listed_length, List.length_take, Nat.min_eq_left hk]) (row_Listed_one _) (fun e => by cases e) (HST.out _ (by first | exact hB0.trans (OT.out.2.2.drew.mono hws2) | go_grown)) (by omega) (by omega) OT.out.2.2.drew.size ?_; intro v2 w3 hown2 hgrow2; rw [Nat.zero_add, List.nil_append] at hown2; have HBA := Lib.hid (below_ownV OT.out.2.2.drew hgrow2 OT.out.1.drew (Nat.le_refl _) OT.out.2.2.drew.size); have HS30 := Lib.hid ((hgrow2.block W2.heap.size (by simp; omega) (fun e => by have e2 : some W2.heap.size = some (W2.heap.size + 1) := e; simp at e2)).trans OT.out.2.1); have FB2 := Lib.hid trivial; have HOA := Lib.hid hown2; clear FA FG hown2 hgrow2) | (have FG := FB1; refine step_appendV rfl (.tmp 28) (.tmp 30) 24 rfl W2.heap.size 32 i0 (.agg #[.string ⟨#[]⟩, .int .i64 0, .int .i64 0, .int .i64 0]) 4 40 Try.underlying24 hi hz0 hz1 hz2 rfl (by decide) _ _ _ rfl (HOA.out.alloc _) _ 1 1 (cells_Listed (x, f, u, s)) rfl rfl (by simp [cells_Listed, Value.oneCell']) (fun e => by cases e) (one4 w3 (x, f, u, s) _) (by omega) (by omega) (HBA.out.alloc HBA.out.size (.cells #[.string x, .int .i64 f, .int .i64 u, .int .i64 s] 32)).size ?_; intro v4 w5 hown4 hgrow4; have HBB := Lib.hid (below_ownV (HBA.out.alloc HBA.out.size (.cells #[.string x, .int .i64 f, .int .i64 u, .int .i64 s] 32)) hgrow4 (HOA.out.alloc _) (Nat.le_refl _) (HBA.out.alloc HBA.out.size (.cells #[.string x, .int .i64 f, .int .i64 u, .int .i64 s] 32)).size); have HOB := Lib.hid hown4; clear FB1 FG hown4 hgrow4) | (have FG := FB2; refine step_appendV rfl (.tmp 28) (.tmp 30) 24 rfl W2.heap.size 32 i0 (.agg #[.string ⟨#[]⟩, .int .i64 0, .int .i64 0, .int .i64 0]) 4 40 Try.underlying24 hi hz0 hz1 hz2 rfl (by decide) _ _ _ rfl HOA.out _ 1 1 (cells_Listed (x, f, u, s)) rfl rfl (by simp [cells_Listed, Value.oneCell']) (fun e => by cases e) (blk4 (x := (x, f, u, s)) HS30.out) (by omega) (by omega) HBA.out.size ?_; intro v4 w5 hown4 hgrow4; have HBB := Lib.hid (below_ownV HBA.out hgrow4 HOA.out (Nat.le_refl _) HBA.out.size); have HOB := Lib.hid hown4; clear FB2 FG hown4 hgrow4) | (refine step_appendV rfl (.tmp 31) (.tmp 34) 24 rfl W2.heap.size 32 i0 (.agg #[.string ⟨#[]⟩, .int .i64 0, .int .i64 0, .int .i64 0]) 4 40 Try.underlying24 hi hz0 hz1 hz2 rfl (by decide) _ _ _ rfl HOB.out _ _ _ (row_Listed (l.drop k)) rfl (by rw [row_Listed_length, List.length_drop]) (row_Listed_one _) (fun e => by cases e) (HSD.out _ (hB0.trans (HBB.out.mono hws2))) (by omega) (by omega) HBB.out.size ?_; intro v6 w7 hown6 hgrow6; have HBC := Lib.hid (below_ownV HBB.out hgrow6 HOB.out (Nat.le_refl _) HBB.out.size); have HOC := Lib.hid hown6; clear hown6 hgrow6))
            all_goals (go_wp2_with fail; go_meet; exact ⟨Lib.hid (ins_own (l := l) (k := k) HOC.out rfl rfl (by omega) hws2), hB2.trans (HBC.out.mono hB2.size)⟩)
        case rest =>
          obtain ⟨HO, hb3⟩ := hcut
          obtain ⟨m, hm⟩ : ∃ m, m = insW l (x, f, u, s) := ⟨_, rfl⟩
          have hml : m.length = l.length + 1 := by rw [hm]; unfold insW; rw [HPOS.out]; exact insW_length l _ k hk
          have HOM : Hid (wc.ownsRow w.heap.size 32 4 u7 m.length (row_Listed m)) := Lib.hid (by rw [hml, hm]; unfold insW; rw [HPOS.out]; exact HO.out)
          obtain ⟨p, hp⟩ : ∃ p, p = islW m := ⟨_, rfl⟩
          have HIS := Lib.hid (fun v w h => sislist_any m (by omega) v w h)
          rw [← hp] at HIS
          have HE : Hid (addW l (x, f, u, s) = if 0 ≤ findL l x then (l, false) else if p = true then (m, true) else (l, false)) := Lib.hid (by unfold addW; rw [← hm, ← hp])
          have HFI := Lib.hid (fun v w h => sfind_any l x (by omega) v w h)
          have HB3 := Lib.hid (HW.out.trans (hb3.mono (by omega)))
          have d0 := (hb3.cell (p := ⟨w.heap.size, 0, none⟩) (by show w.heap.size < _; omega)).trans HBOX.out.1
          clear hm hp HO hb3 HKP c0 c1 c2 c3
          rcases findL_range l x with e | ⟨k', hk', e⟩
          · rw [e] at HFI HE
            clear e
            cases p with
            | true =>
              have HE2 : Hid (addW l (x, f, u, s) = (m, true)) := Lib.hid (by rw [HE.out]; rfl)
              clear HE
              go_wp2_with (first | (go_at_call 59; refine (HFI.out _ _ (HV.out.now HB3.out)).mono ?_; rintro e w8 ⟨rfl, b8⟩; have HB8 := Lib.hid (btrans HB3.out b8); have HO8 := Lib.hid (ownV_later HOM.out b8)) | (go_at_call 22; refine (HIS.out _ _ (reads_Listed_own HO8.out rfl (by omega))).mono ?_; rintro e w9 ⟨rfl, b9⟩; have HB9 := Lib.hid (btrans HB8.out b9); have HO9 := Lib.hid (ownV_later HO8.out b9)))
              go_ret2
              exact ⟨_, by rw [HE2.out]; rfl, by rw [HE2.out]; exact HO9.out, HB9.out⟩
            | false =>
              have HE2 : Hid (addW l (x, f, u, s) = (l, false)) := Lib.hid (by rw [HE.out]; rfl)
              clear HE
              go_wp2_with (first | (go_at_call 59; refine (HFI.out _ _ (HV.out.now HB3.out)).mono ?_; rintro e w8 ⟨rfl, b8⟩; have HB8 := Lib.hid (btrans HB3.out b8); have HO8 := Lib.hid (ownV_later HOM.out b8)) | (go_at_call 22; refine (HIS.out _ _ (reads_Listed_own HO8.out rfl (by omega))).mono ?_; rintro e w9 ⟨rfl, b9⟩; have HB9 := Lib.hid (btrans HB8.out b9); have HO9 := Lib.hid (ownV_later HO8.out b9)) | (at_builtin; refine appendV_reads _ rfl _ _ 24 rfl w9.heap.size 32 i0 (.agg #[.string ⟨#[]⟩, .int .i64 0, .int .i64 0, .int .i64 0]) 4 40 Try.underlying24 hi hz0 hz1 hz2 rfl (by decide) _ _ _ rfl (own_emptyV w9 32 4) _ l.length cap (row_Listed l) rfl (row_Listed_length l) (row_Listed_one l) HCAP.out.1 (srcB HV.out (HB9.out.alloc HB9.out.size _)) (by omega) (by omega) (le_alloc (Nat.le_refl _) _) ?_; intro v7 w7 hown hgrow; rw [Nat.zero_add, List.nil_append] at hown))
              have HB7 := Lib.hid ((HB9.out.alloc HB9.out.size (.cells #[] 32)).grown hgrow (le_alloc HB9.out.size _) (fun k hk => by cases hk; exact HB9.out.size))
              have HO7 := Lib.hid (own_wideV hown HB9.out.size)
              clear hown hgrow
              go_ret2
              exact ⟨_, by rw [HE2.out]; rfl, by rw [HE2.out]; exact HO7.out, HB7.out⟩
          · rw [e] at HFI HE
            clear e
            have HE2 : Hid (addW l (x, f, u, s) = (l, false)) := Lib.hid (by rw [HE.out, if_pos (by omega)])
            clear HE
            go_wp2_with (first | (go_at_call 59; refine (HFI.out _ _ (HV.out.now HB3.out)).mono ?_; rintro e w9 ⟨rfl, b8⟩; have HB9 := Lib.hid (btrans HB3.out b8)) | (at_builtin; refine appendV_reads _ rfl _ _ 24 rfl w9.heap.size 32 i0 (.agg #[.string ⟨#[]⟩, .int .i64 0, .int .i64 0, .int .i64 0]) 4 40 Try.underlying24 hi hz0 hz1 hz2 rfl (by decide) _ _ _ rfl (own_emptyV w9 32 4) _ l.length cap (row_Listed l) rfl (row_Listed_length l) (row_Listed_one l) HCAP.out.1 (srcB HV.out (HB9.out.alloc HB9.out.size _)) (by omega) (by omega) (le_alloc (Nat.le_refl _) _) ?_; intro v7 w7 hown hgrow; rw [Nat.zero_add, List.nil_append] at hown))
            have HB7 := Lib.hid ((HB9.out.alloc HB9.out.size (.cells #[] 32)).grown hgrow (le_alloc HB9.out.size _) (fun k hk => by cases hk; exact HB9.out.size))
            have HO7 := Lib.hid (own_wideV hown HB9.out.size)
            clear hown hgrow
            go_ret2
            exact ⟨_, by rw [HE2.out]; rfl, by rw [HE2.out]; exact HO7.out, HB7.out⟩
    · have hkl : k = l.length := by omega
      have HPOS : Hid (posW l x = k) := Lib.hid (by rw [hkl]; exact posW_end (fun j hj => HN.out j (by omega)))
      go_wp2
      go_quiet (fail)
      go_upto_region 4 with (fail)
      obtain ⟨W2, hW2⟩ : ∃ W2, W2 = wr.drewN nq := ⟨_, rfl⟩
      have hB2 : Below W1.heap.size W1 W2 := by rw [hW2]; exact below_drewN hbl _
      have hB0 : Below w.heap.size w W2 := HW.out.trans (hB2.mono (by omega))
      have hws2 : w.heap.size ≤ W2.heap.size := hB0.size
      rw [← hW2]
      have c0 := (hB2.cell (p := ⟨w.heap.size, 0, none⟩) (by show w.heap.size < _; omega)).trans HBOX.out.1
      have c1 := (hB2.cell (p := ⟨w.heap.size, 1, none⟩) (by show w.heap.size < _; omega)).trans HBOX.out.2.1
      have c2 := (hB2.cell (p := ⟨w.heap.size, 2, none⟩) (by show w.heap.size < _; omega)).trans HBOX.out.2.2.1
      have c3 := (hB2.cell (p := ⟨w.heap.size, 3, none⟩) (by show w.heap.size < _; omega)).trans HBOX.out.2.2.2
      have HKP : Hid (∀ w', Below W2.heap.size W2 w' → w'.cell? ⟨w.heap.size, 0, none⟩ = some (.string x) ∧ w'.cell? ⟨w.heap.size, 1, none⟩ = some (.int .i64 f) ∧ w'.cell? ⟨w.heap.size, 2, none⟩ = some (.int .i64 u) ∧ w'.cell? ⟨w.heap.size, 3, none⟩ = some (.int .i64 s)) := Lib.hid (fun w' h => ⟨(h.cell (p := ⟨w.heap.size, 0, none⟩) (by show w.heap.size < _; have := hB2.size; omega)).trans c0, (h.cell (p := ⟨w.heap.size, 1, none⟩) (by show w.heap.size < _; have := hB2.size; omega)).trans c1, (h.cell (p := ⟨w.heap.size, 2, none⟩) (by show w.heap.size < _; have := hB2.size; omega)).trans c2, (h.cell (p := ⟨w.heap.size, 3, none⟩) (by show w.heap.size < _; have := hB2.size; omega)).trans c3⟩)
      clear hW2 hbl
      clear hlt
      go_cut [7] (fun s7 wx => Hid (wx.ownsRow w.heap.size 32 4 s7 (l.length + 1) (row_Listed (l.take k ++ [(x, f, u, s)] ++ l.drop k))) ∧ Below W1.heap.size W1 wx)
      case first =>
        by_cases hck : cap = k
        · subst hkl
          obtain rfl : cap = l.length := hck
          have FA := Lib.hid trivial
          go_region_held3 (fun w' => w'.cell? ⟨w.heap.size, 0, none⟩ = some (.string x) ∧ w'.cell? ⟨w.heap.size, 1, none⟩ = some (.int .i64 f) ∧ w'.cell? ⟨w.heap.size, 2, none⟩ = some (.int .i64 u) ∧ w'.cell? ⟨w.heap.size, 3, none⟩ = some (.int .i64 s)) (first | exact ⟨c0, c1, c2, c3⟩ | exact HKP.out _ HBC.out | exact HKP.out _ HBB.out | exact HKP.out _ (HBA.out.alloc HBA.out.size _) | exact HKP.out _ HBA.out | exact HKP.out _ (by go_grown)) (first | (have FG := FA; refine step_appendV rfl (.tmp 24) (.tmp 27) 24 rfl W2.heap.size 32 i0 (.agg #[.string ⟨#[]⟩, .int .i64 0, .int .i64 0, .int .i64 0]) 4 40 Try.underlying24 hi hz0 hz1 hz2 rfl (by decide) _ _ _ rfl (own_emptyV W2 32 4).drew _ _ _ (row_Listed l) rfl (row_Listed_length l) (row_Listed_one l) (fun e => by have := HCAP.out.1 (by first | exact e | exact Option.map_eq_none_iff.1 e); omega) (srcB HV.out (by first | exact hB0.trans (OT.out.2.2.drew.mono hws2) | go_grown)) (by omega) (by omega) ((Below.refl W2.heap.size W2).alloc (Nat.le_refl _) (.cells #[] 32)).drew.size ?_; intro v2 w3 hown2 hgrow2; rw [Nat.zero_add, List.nil_append] at hown2; have HBA := Lib.hid (below_ownV ((Below.refl W2.heap.size W2).alloc (Nat.le_refl _) (.cells #[] 32)).drew hgrow2 (own_emptyV W2 32 4).drew (Nat.le_refl _) ((Below.refl W2.heap.size W2).alloc (Nat.le_refl _) (.cells #[] 32)).drew.size); have FB1 := Lib.hid trivial; have HOA := Lib.hid hown2; clear FA FG hown2 hgrow2) | (have FG := FA; have OT := Lib.hid (own_then W2 32 (.cells #[.string x, .int .i64 f, .int .i64 u, .int .i64 s] 32)); refine step_appendV rfl (.tmp 24) (.tmp 27) 24 rfl W2.heap.size 32 i0 (.agg #[.string ⟨#[]⟩, .int .i64 0, .int .i64 0, .int .i64 0]) 4 40 Try.underlying24 hi hz0 hz1 hz2 rfl (by decide) _ _ _ rfl OT.out.1.drew _ _ _ (row_Listed l) rfl (row_Listed_length l) (row_Listed_one l) (fun e => by have := HCAP.out.1 (by first | exact e | exact Option.map_eq_none_iff.1 e); omega) (srcB HV.out (by first | exact hB0.trans (OT.out.2.2.drew.mono hws2) | go_grown)) (by omega) (by omega) OT.out.2.2.drew.size ?_; intro v2 w3 hown2 hgrow2; rw [Nat.zero_add, List.nil_append] at hown2; have HBA := Lib.hid (below_ownV OT.out.2.2.drew hgrow2 OT.out.1.drew (Nat.le_refl _) OT.out.2.2.drew.size); have HS30 := Lib.hid ((hgrow2.block (W2.heap.size + 1) (by simp) (fun e => by have e2 : some (W2.heap.size + 1) = some W2.heap.size := e; simp at e2)).trans OT.out.2.1); have FB2 := Lib.hid trivial; have HOA := Lib.hid hown2; clear FA FG hown2 hgrow2) | (have FG := FA; have OT := Lib.hid (own_behind W2 32 (.cells #[.string x, .int .i64 f, .int .i64 u, .int .i64 s] 32)); refine step_appendV rfl (.tmp 24) (.tmp 27) 24 rfl W2.heap.size 32 i0 (.agg #[.string ⟨#[]⟩, .int .i64 0, .int .i64 0, .int .i64 0]) 4 40 Try.underlying24 hi hz0 hz1 hz2 rfl (by decide) _ _ _ rfl OT.out.1.drew _ _ _ (row_Listed l) rfl (row_Listed_length l) (row_Listed_one l) (fun e => by have := HCAP.out.1 (by first | exact e | exact Option.map_eq_none_iff.1 e); omega) (srcB HV.out (by first | exact hB0.trans (OT.out.2.2.drew.mono hws2) | go_grown)) (by omega) (by omega) OT.out.2.2.drew.size ?_; intro v2 w3 hown2 hgrow2; rw [Nat.zero_add, List.nil_append] at hown2; have HBA := Lib.hid (below_ownV OT.out.2.2.drew hgrow2 OT.out.1.drew (Nat.le_refl _) OT.out.2.2.drew.size); have HS30 := Lib.hid ((hgrow2.block W2.heap.size (by simp; omega) (fun e => by have e2 : some W2.heap.size = some (W2.heap.size + 1) := e; simp at e2)).trans OT.out.2.1); have FB2 := Lib.hid trivial; have HOA := Lib.hid hown2; clear FA FG hown2 hgrow2) | (have FG := FB1; refine step_appendV rfl (.tmp 28) (.tmp 30) 24 rfl W2.heap.size 32 i0 (.agg #[.string ⟨#[]⟩, .int .i64 0, .int .i64 0, .int .i64 0]) 4 40 Try.underlying24 hi hz0 hz1 hz2 rfl (by decide) _ _ _ rfl (HOA.out.alloc _) _ 1 1 (cells_Listed (x, f, u, s)) rfl rfl (by simp [cells_Listed, Value.oneCell']) (fun e => by cases e) (one4 w3 (x, f, u, s) _) (by omega) (by omega) (HBA.out.alloc HBA.out.size (.cells #[.string x, .int .i64 f, .int .i64 u, .int .i64 s] 32)).size ?_; intro v4 w5 hown4 hgrow4; have HBB := Lib.hid (below_ownV (HBA.out.alloc HBA.out.size (.cells #[.string x, .int .i64 f, .int .i64 u, .int .i64 s] 32)) hgrow4 (HOA.out.alloc _) (Nat.le_refl _) (HBA.out.alloc HBA.out.size (.cells #[.string x, .int .i64 f, .int .i64 u, .int .i64 s] 32)).size); have HOB := Lib.hid hown4; clear FB1 FG hown4 hgrow4) | (have FG := FB2; refine step_appendV rfl (.tmp 28) (.tmp 30) 24 rfl W2.heap.size 32 i0 (.agg #[.string ⟨#[]⟩, .int .i64 0, .int .i64 0, .int .i64 0]) 4 40 Try.underlying24 hi hz0 hz1 hz2 rfl (by decide) _ _ _ rfl HOA.out _ 1 1 (cells_Listed (x, f, u, s)) rfl rfl (by simp [cells_Listed, Value.oneCell']) (fun e => by cases e) (blk4 (x := (x, f, u, s)) HS30.out) (by omega) (by omega) HBA.out.size ?_; intro v4 w5 hown4 hgrow4; have HBB := Lib.hid (below_ownV HBA.out hgrow4 HOA.out (Nat.le_refl _) HBA.out.size); have HOB := Lib.hid hown4; clear FB2 FG hown4 hgrow4) | (refine step_appendV rfl (.tmp 31) (.tmp 34) 24 rfl W2.heap.size 32 i0 (.agg #[.string ⟨#[]⟩, .int .i64 0, .int .i64 0, .int .i64 0]) 4 40 Try.underlying24 hi hz0 hz1 hz2 rfl (by decide) _ _ _ rfl HOB.out _ _ _ [] rfl (by simp) (by simp) (fun e => by have := HCAP.out.1 (by first | exact e | exact Option.map_eq_none_iff.1 e); omega) (fun j hj => absurd hj (by simp)) (by omega) (by omega) HBB.out.size ?_; intro v6 w7 hown6 hgrow6; have HBC := Lib.hid (below_ownV HBB.out hgrow6 HOB.out (Nat.le_refl _) HBB.out.size); have HOC := Lib.hid hown6; clear hown6 hgrow6))
          all_goals (go_wp2_with fail; go_meet; exact ⟨Lib.hid (ins_own (l := l) (k := l.length) HOC.out (by simp) (by simp [row_Listed]) (by omega) hws2), hB2.trans (HBC.out.mono hB2.size)⟩)
        · subst hkl
          have FA := Lib.hid trivial
          go_region_held3 (fun w' => w'.cell? ⟨w.heap.size, 0, none⟩ = some (.string x) ∧ w'.cell? ⟨w.heap.size, 1, none⟩ = some (.int .i64 f) ∧ w'.cell? ⟨w.heap.size, 2, none⟩ = some (.int .i64 u) ∧ w'.cell? ⟨w.heap.size, 3, none⟩ = some (.int .i64 s)) (first | exact ⟨c0, c1, c2, c3⟩ | exact HKP.out _ HBC.out | exact HKP.out _ HBB.out | exact HKP.out _ (HBA.out.alloc HBA.out.size _) | exact HKP.out _ HBA.out | exact HKP.out _ (by go_grown)) (first | (have FG := FA; refine step_appendV rfl (.tmp 24) (.tmp 27) 24 rfl W2.heap.size 32 i0 (.agg #[.string ⟨#[]⟩, .int .i64 0, .int .i64 0, .int .i64 0]) 4 40 Try.underlying24 hi hz0 hz1 hz2 rfl (by decide) _ _ _ rfl (own_emptyV W2 32 4).drew _ _ _ (row_Listed l) rfl (row_Listed_length l) (row_Listed_one l) (fun e => by have := HCAP.out.1 (by first | exact e | exact Option.map_eq_none_iff.1 e); omega) (srcB HV.out (by first | exact hB0.trans (OT.out.2.2.drew.mono hws2) | go_grown)) (by omega) (by omega) ((Below.refl W2.heap.size W2).alloc (Nat.le_refl _) (.cells #[] 32)).drew.size ?_; intro v2 w3 hown2 hgrow2; rw [Nat.zero_add, List.nil_append] at hown2; have HBA := Lib.hid (below_ownV ((Below.refl W2.heap.size W2).alloc (Nat.le_refl _) (.cells #[] 32)).drew hgrow2 (own_emptyV W2 32 4).drew (Nat.le_refl _) ((Below.refl W2.heap.size W2).alloc (Nat.le_refl _) (.cells #[] 32)).drew.size); have FB1 := Lib.hid trivial; have HOA := Lib.hid hown2; clear FA FG hown2 hgrow2) | (have FG := FA; have OT := Lib.hid (own_then W2 32 (.cells #[.string x, .int .i64 f, .int .i64 u, .int .i64 s] 32)); refine step_appendV rfl (.tmp 24) (.tmp 27) 24 rfl W2.heap.size 32 i0 (.agg #[.string ⟨#[]⟩, .int .i64 0, .int .i64 0, .int .i64 0]) 4 40 Try.underlying24 hi hz0 hz1 hz2 rfl (by decide) _ _ _ rfl OT.out.1.drew _ _ _ (row_Listed l) rfl (row_Listed_length l) (row_Listed_one l) (fun e => by have := HCAP.out.1 (by first | exact e | exact Option.map_eq_none_iff.1 e); omega) (srcB HV.out (by first | exact hB0.trans (OT.out.2.2.drew.mono hws2) | go_grown)) (by omega) (by omega) OT.out.2.2.drew.size ?_; intro v2 w3 hown2 hgrow2; rw [Nat.zero_add, List.nil_append] at hown2; have HBA := Lib.hid (below_ownV OT.out.2.2.drew hgrow2 OT.out.1.drew (Nat.le_refl _) OT.out.2.2.drew.size); have HS30 := Lib.hid ((hgrow2.block (W2.heap.size + 1) (by simp) (fun e => by have e2 : some (W2.heap.size + 1) = some W2.heap.size := e; simp at e2)).trans OT.out.2.1); have FB2 := Lib.hid trivial; have HOA := Lib.hid hown2; clear FA FG hown2 hgrow2) | (have FG := FA; have OT := Lib.hid (own_behind W2 32 (.cells #[.string x, .int .i64 f, .int .i64 u, .int .i64 s] 32)); refine step_appendV rfl (.tmp 24) (.tmp 27) 24 rfl W2.heap.size 32 i0 (.agg #[.string ⟨#[]⟩, .int .i64 0, .int .i64 0, .int .i64 0]) 4 40 Try.underlying24 hi hz0 hz1 hz2 rfl (by decide) _ _ _ rfl OT.out.1.drew _ _ _ (row_Listed l) rfl (row_Listed_length l) (row_Listed_one l) (fun e => by have := HCAP.out.1 (by first | exact e | exact Option.map_eq_none_iff.1 e); omega) (srcB HV.out (by first | exact hB0.trans (OT.out.2.2.drew.mono hws2) | go_grown)) (by omega) (by omega) OT.out.2.2.drew.size ?_; intro v2 w3 hown2 hgrow2; rw [Nat.zero_add, List.nil_append] at hown2; have HBA := Lib.hid (below_ownV OT.out.2.2.drew hgrow2 OT.out.1.drew (Nat.le_refl _) OT.out.2.2.drew.size); have HS30 := Lib.hid ((hgrow2.block W2.heap.size (by simp; omega) (fun e => by have e2 : some W2.heap.size = some (W2.heap.size + 1) := e; simp at e2)).trans OT.out.2.1); have FB2 := Lib.hid trivial; have HOA := Lib.hid hown2; clear FA FG hown2 hgrow2) | (have FG := FB1; refine step_appendV rfl (.tmp 28) (.tmp 30) 24 rfl W2.heap.size 32 i0 (.agg #[.string ⟨#[]⟩, .int .i64 0, .int .i64 0, .int .i64 0]) 4 40 Try.underlying24 hi hz0 hz1 hz2 rfl (by decide) _ _ _ rfl (HOA.out.alloc _) _ 1 1 (cells_Listed (x, f, u, s)) rfl rfl (by simp [cells_Listed, Value.oneCell']) (fun e => by cases e) (one4 w3 (x, f, u, s) _) (by omega) (by omega) (HBA.out.alloc HBA.out.size (.cells #[.string x, .int .i64 f, .int .i64 u, .int .i64 s] 32)).size ?_; intro v4 w5 hown4 hgrow4; have HBB := Lib.hid (below_ownV (HBA.out.alloc HBA.out.size (.cells #[.string x, .int .i64 f, .int .i64 u, .int .i64 s] 32)) hgrow4 (HOA.out.alloc _) (Nat.le_refl _) (HBA.out.alloc HBA.out.size (.cells #[.string x, .int .i64 f, .int .i64 u, .int .i64 s] 32)).size); have HOB := Lib.hid hown4; clear FB1 FG hown4 hgrow4) | (have FG := FB2; refine step_appendV rfl (.tmp 28) (.tmp 30) 24 rfl W2.heap.size 32 i0 (.agg #[.string ⟨#[]⟩, .int .i64 0, .int .i64 0, .int .i64 0]) 4 40 Try.underlying24 hi hz0 hz1 hz2 rfl (by decide) _ _ _ rfl HOA.out _ 1 1 (cells_Listed (x, f, u, s)) rfl rfl (by simp [cells_Listed, Value.oneCell']) (fun e => by cases e) (blk4 (x := (x, f, u, s)) HS30.out) (by omega) (by omega) HBA.out.size ?_; intro v4 w5 hown4 hgrow4; have HBB := Lib.hid (below_ownV HBA.out hgrow4 HOA.out (Nat.le_refl _) HBA.out.size); have HOB := Lib.hid hown4; clear FB2 FG hown4 hgrow4) | (refine step_appendV rfl (.tmp 31) (.tmp 34) 24 rfl W2.heap.size 32 i0 (.agg #[.string ⟨#[]⟩, .int .i64 0, .int .i64 0, .int .i64 0]) 4 40 Try.underlying24 hi hz0 hz1 hz2 rfl (by decide) _ _ _ rfl HOB.out _ _ _ [] rfl (by simp) (by simp) (fun e => by have := HCAP.out.1 (by first | exact e | exact Option.map_eq_none_iff.1 e); omega) (fun j hj => absurd hj (by simp)) (by omega) (by omega) HBB.out.size ?_; intro v6 w7 hown6 hgrow6; have HBC := Lib.hid (below_ownV HBB.out hgrow6 HOB.out (Nat.le_refl _) HBB.out.size); have HOC := Lib.hid hown6; clear hown6 hgrow6))
          all_goals (go_wp2_with fail; go_meet; exact ⟨Lib.hid (ins_own (l := l) (k := l.length) HOC.out (by simp) (by simp [row_Listed]) (by omega) hws2), hB2.trans (HBC.out.mono hB2.size)⟩)
      case rest =>
        obtain ⟨HO, hb3⟩ := hcut
        obtain ⟨m, hm⟩ : ∃ m, m = insW l (x, f, u, s) := ⟨_, rfl⟩
        have hml : m.length = l.length + 1 := by rw [hm]; unfold insW; rw [HPOS.out]; exact insW_length l _ k hk
        have HOM : Hid (wc.ownsRow w.heap.size 32 4 u7 m.length (row_Listed m)) := Lib.hid (by rw [hml, hm]; unfold insW; rw [HPOS.out]; exact HO.out)
        obtain ⟨p, hp⟩ : ∃ p, p = islW m := ⟨_, rfl⟩
        have HIS := Lib.hid (fun v w h => sislist_any m (by omega) v w h)
        rw [← hp] at HIS
        have HE : Hid (addW l (x, f, u, s) = if 0 ≤ findL l x then (l, false) else if p = true then (m, true) else (l, false)) := Lib.hid (by unfold addW; rw [← hm, ← hp])
        have HFI := Lib.hid (fun v w h => sfind_any l x (by omega) v w h)
        have HB3 := Lib.hid (HW.out.trans (hb3.mono (by omega)))
        have d0 := (hb3.cell (p := ⟨w.heap.size, 0, none⟩) (by show w.heap.size < _; omega)).trans HBOX.out.1
        clear hm hp HO hb3 HKP c0 c1 c2 c3
        rcases findL_range l x with e | ⟨k', hk', e⟩
        · rw [e] at HFI HE
          clear e
          cases p with
          | true =>
            have HE2 : Hid (addW l (x, f, u, s) = (m, true)) := Lib.hid (by rw [HE.out]; rfl)
            clear HE
            go_wp2_with (first | (go_at_call 59; refine (HFI.out _ _ (HV.out.now HB3.out)).mono ?_; rintro e w8 ⟨rfl, b8⟩; have HB8 := Lib.hid (btrans HB3.out b8); have HO8 := Lib.hid (ownV_later HOM.out b8)) | (go_at_call 22; refine (HIS.out _ _ (reads_Listed_own HO8.out rfl (by omega))).mono ?_; rintro e w9 ⟨rfl, b9⟩; have HB9 := Lib.hid (btrans HB8.out b9); have HO9 := Lib.hid (ownV_later HO8.out b9)))
            go_ret2
            exact ⟨_, by rw [HE2.out]; rfl, by rw [HE2.out]; exact HO9.out, HB9.out⟩
          | false =>
            have HE2 : Hid (addW l (x, f, u, s) = (l, false)) := Lib.hid (by rw [HE.out]; rfl)
            clear HE
            go_wp2_with (first | (go_at_call 59; refine (HFI.out _ _ (HV.out.now HB3.out)).mono ?_; rintro e w8 ⟨rfl, b8⟩; have HB8 := Lib.hid (btrans HB3.out b8); have HO8 := Lib.hid (ownV_later HOM.out b8)) | (go_at_call 22; refine (HIS.out _ _ (reads_Listed_own HO8.out rfl (by omega))).mono ?_; rintro e w9 ⟨rfl, b9⟩; have HB9 := Lib.hid (btrans HB8.out b9); have HO9 := Lib.hid (ownV_later HO8.out b9)) | (at_builtin; refine appendV_reads _ rfl _ _ 24 rfl w9.heap.size 32 i0 (.agg #[.string ⟨#[]⟩, .int .i64 0, .int .i64 0, .int .i64 0]) 4 40 Try.underlying24 hi hz0 hz1 hz2 rfl (by decide) _ _ _ rfl (own_emptyV w9 32 4) _ l.length cap (row_Listed l) rfl (row_Listed_length l) (row_Listed_one l) HCAP.out.1 (srcB HV.out (HB9.out.alloc HB9.out.size _)) (by omega) (by omega) (le_alloc (Nat.le_refl _) _) ?_; intro v7 w7 hown hgrow; rw [Nat.zero_add, List.nil_append] at hown))
            have HB7 := Lib.hid ((HB9.out.alloc HB9.out.size (.cells #[] 32)).grown hgrow (le_alloc HB9.out.size _) (fun k hk => by cases hk; exact HB9.out.size))
            have HO7 := Lib.hid (own_wideV hown HB9.out.size)
            clear hown hgrow
            go_ret2
            exact ⟨_, by rw [HE2.out]; rfl, by rw [HE2.out]; exact HO7.out, HB7.out⟩
        · rw [e] at HFI HE
          clear e
          have HE2 : Hid (addW l (x, f, u, s) = (l, false)) := Lib.hid (by rw [HE.out, if_pos (by omega)])
          clear HE
          go_wp2_with (first | (go_at_call 59; refine (HFI.out _ _ (HV.out.now HB3.out)).mono ?_; rintro e w9 ⟨rfl, b8⟩; have HB9 := Lib.hid (btrans HB3.out b8)) | (at_builtin; refine appendV_reads _ rfl _ _ 24 rfl w9.heap.size 32 i0 (.agg #[.string ⟨#[]⟩, .int .i64 0, .int .i64 0, .int .i64 0]) 4 40 Try.underlying24 hi hz0 hz1 hz2 rfl (by decide) _ _ _ rfl (own_emptyV w9 32 4) _ l.length cap (row_Listed l) rfl (row_Listed_length l) (row_Listed_one l) HCAP.out.1 (srcB HV.out (HB9.out.alloc HB9.out.size _)) (by omega) (by omega) (le_alloc (Nat.le_refl _) _) ?_; intro v7 w7 hown hgrow; rw [Nat.zero_add, List.nil_append] at hown))
          have HB7 := Lib.hid ((HB9.out.alloc HB9.out.size (.cells #[] 32)).grown hgrow (le_alloc HB9.out.size _) (fun k hk => by cases hk; exact HB9.out.size))
          have HO7 := Lib.hid (own_wideV hown HB9.out.size)
          clear hown hgrow
          go_ret2
          exact ⟨_, by rw [HE2.out]; rfl, by rw [HE2.out]; exact HO7.out, HB7.out⟩
end Go.Proofs.Ytcpojeiciaghmaa
