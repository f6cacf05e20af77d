/-
  Contracts of the exact laws' helpers on slices of slices of strings: toStringSS, eqStringSS, szStringSS, markStringSS, heldStringSS.
-/
import Derived.Test.YtmhgejljjjmejaaNest
namespace Go.Proofs.Ytmhgejljjjmejaa
open Go.RowKit

theorem infoStrS : (Try.prog.info? 33).map (fun i => (i.zero, i.size, i.bytes)) = some (some (.slice none 0 0), 1, 24) := by kernel_rfl
abbrev fS : ByteArray → List Value := fun z => [Value.string z]
theorem own_base {W : World} {base base' s n : Nat} {e : TypeId} {v : Value} {xs : List Value} (h : W.ownsRow base e s v n xs) (hb : base' ≤ base) : W.ownsRow base' e s v n xs := ownV_base h fun k e => Nat.le_trans hb (h.lt k e).1
/-- What has been copied after k rounds. -/
def doneN (L : List (List ByteArray)) (k : Nat) : List (List ByteArray) := L.take k ++ List.replicate (L.length - k) []
theorem doneN_length (L : List (List ByteArray)) {k : Nat} (h : k ≤ L.length) : (doneN L k).length = L.length := by simp [doneN]; omega
theorem doneN_set (L : List (List ByteArray)) (k : Nat) (h : k < L.length) : (doneN L k).set k (L.getD k []) = doneN L (k + 1) := take_set0 L [] k h
theorem doneN_full (L : List (List ByteArray)) : doneN L L.length = L := by simp [doneN]
theorem doneN_zero (L : List (List ByteArray)) : doneN L 0 = List.replicate L.length [] := by simp [doneN]
theorem own_fS {W : World} {base n : Nat} {e : TypeId} {v : Value} {l : List ByteArray} (h : W.ownsRow base e 1 v n (l.map Value.string)) : W.ownsRow base e 1 v n (l.flatMap fS) := by
  rw [flat_strs]; exact h
theorem own_sF {W : World} {base n : Nat} {e : TypeId} {v : Value} {l : List ByteArray} (h : W.ownsRow base e 1 v n (l.flatMap fS)) : W.ownsRow base e 1 v n (l.map Value.string) := by
  rw [flat_strs] at h; exact h
set_option maxRecDepth 100000 in
set_option maxHeartbeats 800000 in
theorem to_strss (L : List (List ByteArray)) (hl : L.length ≤ 1048576) (hm : ∀ m ∈ L, m.length ≤ 1048576) (v : Value) (w : World) (hv : ReadsN w.heap.size w v L) :
    Calls Try.prog 9 #[v] w fun e w' => ∃ v', e = .returned v' ∧ OwnT w' w.heap.size w'.heap.size v' L ∧ Below w.heap.size w w' := by
  obtain ⟨i0, hi, hz0, hz1, hz2⟩ := info_parts infoStrS
  obtain ⟨-, a0, cap, rfl, -, hc⟩ := hv.cells
  have HC := Lib.hid hc
  have HM := Lib.hid hm
  clear hc hv hm
  go_enter Try.func9, Try.ntmps9
  go_wp2_with (at_make; refine wpList_make_full _ rfl _ _ 24 rfl w.heap.size 33 i0 (.slice none 0 0) 1 Try.underlying24 hi hz0 hz1 .i64 .i64 _ _ L.length rfl rfl rfl rfl (by rw [hz2]; omega) (by unfold maxLen; omega) (Nat.le_refl _) ?_; intro w1 hown hgrow)
  rw [Nat.mul_one, show (Value.slice none 0 0).cells = #[Value.slice none 0 0] from rfl, toList_madeCells_one] at hown
  have HN0 : Hid (OwnN fS 1 33 9 w1 w.heap.size w1.heap.size (.slice (some ⟨w.heap.size, 0, none⟩) L.length L.length) (List.replicate L.length (Value.slice none 0 0)) (doneN L 0)) := Lib.hid (by rw [doneN_zero]; exact OwnN.made hown)
  clear hown
  go_loopw [4] (fun i wr => ∃ k : Nat, k ≤ L.length ∧ i = .int .i64 k ∧ Hid (∃ us, OwnN fS 1 33 9 wr w.heap.size wr.heap.size (.slice (some ⟨w.heap.size, 0, none⟩) L.length L.length) us (doneN L k)) ∧ Below w.heap.size w wr) (fun i _ => L.length - (intOf i).toNat)
  case atStart => exact ⟨0, Nat.zero_le _, rfl, Lib.hid ⟨_, HN0.out⟩, (Below.refl _ _).grown hgrow (Nat.le_refl _) (fun k hk => by cases hk)⟩
  case round =>
    obtain ⟨k, hk, rfl, ⟨us, hn⟩, hbl⟩ := hrel
    by_cases hlt : k < L.length
    · obtain ⟨b, off, u, rfl, hb, hcell, hu⟩ := HC.out k hlt
      have hc1 := (hbl.cell (p := ⟨b, off + k, none⟩) hb).trans hcell
      have HU : Hid (ReadsS wr.heap.size wr u (L.getD k [])) := Lib.hid (ReadsV.now hu hbl)
      have HML : Hid ((L.getD k []).length ≤ 1048576) := Lib.hid (HM.out _ (by simp [List.getD, hlt]))
      have HN := Lib.hid hn
      have HDS := Lib.hid (doneN_set L k hlt)
      obtain ⟨m, hm⟩ : ∃ m, m = L.getD k [] := ⟨_, rfl⟩
      rw [← hm] at HU HML HDS
      clear hcell hu hn hm
      go_wp2_with (go_at_call 16; refine (to_strs m HML.out _ _ HU.out).mono ?_; rintro e w2 ⟨v2, rfl, o2, b2⟩; obtain ⟨a2, c2, rfl⟩ := ownV_slice o2; have HN2 := Lib.hid (HN.out.later (Nat.le_refl _) b2); have HO2 := Lib.hid (own_base (own_fS o2) hbl.size); have hf2 := HN2.out.soft k; have hc2 := HN2.out.spot (j := k) (by rw [doneN_length L hk]; exact hlt); have HB2 := Lib.hid (hbl.trans (b2.mono hbl.size)); have HU2 := Lib.hid (fun q h => (o2.lt q h).1); clear o2 b2)
      have HST := Lib.hid (HN2.out.store (j := k) (u := .slice a2 m.length c2) (m := m) (by rw [doneN_length L hk]; exact hlt) HO2.out (.inr HU2.out))
      go_roundw
      case rel => exact ⟨k + 1, by omega, by go_num, Lib.hid ⟨_, by rw [← HDS.out]; exact HST.out.1⟩, HB2.out.setCell (Nat.le_refl _) _⟩
      case measure => simp [intOf]; omega
    · have HF : Hid (OwnT wr w.heap.size wr.heap.size (.slice (some ⟨w.heap.size, 0, none⟩) L.length L.length) L) := Lib.hid ⟨us, by have h9 := hn; rw [show k = L.length by omega, doneN_full] at h9; exact h9⟩
      clear hn
      go_wp2
      go_ret
      exact ⟨_, rfl, HF.out, hbl⟩
set_option maxHeartbeats 800000 in
/-- eqStringSS at two slices that read the same: true. -/
theorem eq_strss (L : List (List ByteArray)) (v u : Value) (w : World) (hv : ReadsN w.heap.size w v L) (hu : ReadsN w.heap.size w u L) :
    Calls Try.prog 11 #[v, u] w fun e w' => e = .returned (.bool true) ∧ Below w.heap.size w w' := by
  obtain ⟨hl, a0, cap, rfl, -, hc⟩ := hv.cells
  obtain ⟨-, a1, cap1, rfl, -, hd⟩ := hu.cells
  have HC := Lib.hid hc
  have HD := Lib.hid hd
  clear hc hd hv hu
  go_enter Try.func11, Try.ntmps11
  go_wp2
  go_loopw [5] (fun i wr => ∃ k : Nat, k ≤ L.length ∧ i = .int .i64 k ∧ Below w.heap.size w wr) (fun i _ => L.length - (intOf i).toNat)
  case atStart => exact ⟨0, Nat.zero_le _, rfl, Below.refl _ _⟩
  case round =>
    obtain ⟨k, hk, rfl, hbl⟩ := hrel
    by_cases hlt : k < L.length
    · obtain ⟨b, off, x, rfl, hb, hcell, hx⟩ := HC.out k hlt
      obtain ⟨b1, off1, y, rfl, hb1, hcell1, hy⟩ := HD.out k hlt
      have hc1 := (hbl.cell (p := ⟨b, off + k, none⟩) hb).trans hcell
      have hc2 := (hbl.cell (p := ⟨b1, off1 + k, none⟩) hb1).trans hcell1
      have HX : Hid (ReadsS wr.heap.size wr x (L.getD k [])) := Lib.hid (ReadsV.now hx hbl)
      have HY : Hid (ReadsS wr.heap.size wr y (L.getD k [])) := Lib.hid (ReadsV.now hy hbl)
      obtain ⟨m, hm⟩ : ∃ m, m = L.getD k [] := ⟨_, rfl⟩
      rw [← hm] at HX HY
      have hbr : b < wr.heap.size := Nat.lt_of_lt_of_le hb hbl.size
      have hbr1 : b1 < wr.heap.size := Nat.lt_of_lt_of_le hb1 hbl.size
      clear hcell hcell1 hx hy hm
      go_wp2
      go_region_held3 (fun w' => w'.cell? ⟨b, off + k, none⟩ = some x ∧ w'.cell? ⟨b1, off1 + k, none⟩ = some y) (first | exact ⟨hc1, hc2⟩ | exact cS) (first | (go_at_call 18; refine Calls.mono (eq_strs m _ _ _ (by first | exact HX.out | exact HX.out.now ((Below.refl _ _).drew)) (by first | exact HY.out | exact HY.out.now ((Below.refl _ _).drew))) ?_; rintro e w2 ⟨rfl, b2⟩; have cS := And.intro ((b2.cell (p := ⟨b, off + k, none⟩) hbr).trans hc1) ((b2.cell (p := ⟨b1, off1 + k, none⟩) hbr1).trans hc2); have HB2 : Hid (Below w.heap.size w w2) := Lib.hid (by first | exact hbl.trans (b2.mono hbl.size) | exact hbl.drew.trans (b2.mono hbl.size))))
      all_goals go_wp2
      all_goals go_roundw
      case rel => exact ⟨k + 1, by omega, by go_num, by repeat (first | exact HB2.out | apply Below.drew)⟩
      case measure => simp [intOf]; omega
    · go_wp2
      go_ret
      exact ⟨rfl, hbl⟩

/-- What szStringSS tells. -/
def SzN (L : List (List ByteArray)) (left r : Int) : Prop := -1 ≤ r ∧ (0 ≤ r → r ≤ left ∧ (L.length : Int) ≤ left ∧ ∀ m ∈ L, (m.length : Int) ≤ left ∧ ∀ z ∈ m, (z.size : Int) ≤ left)
set_option maxHeartbeats 800000 in
theorem sz_strss (L : List (List ByteArray)) (left : Int) (h0 : 0 ≤ left) (h1 : left ≤ 1048576) (v : Value) (w : World) (hz : ∀ m ∈ L, ∀ z ∈ m, z.size ≤ maxLen) (hv : ReadsN w.heap.size w v L) :
    Calls Try.prog 6 #[v, .int .i64 left] w fun e w' => ∃ r, SzN L left r ∧ e = .returned (.int .i64 r) ∧ w = w' := by
  obtain ⟨hl, a0, cap, rfl, -, hc⟩ := hv.cells
  have HC := Lib.hid hc
  have HZ := Lib.hid hz
  clear hc hz hv
  by_cases hbig : left < L.length
  · go_enter Try.func6, Try.ntmps6
    go_wp2
    go_ret
    exact ⟨-1, ⟨by decide, fun h => by omega⟩, rfl, rfl⟩
  · go_enter Try.func6, Try.ntmps6
    go_wp2
    go_loopw [1, 5] (fun lv i wr => ∃ (k : Nat) (r : Int), k ≤ L.length ∧ i = .int .i64 k ∧ lv = .int .i64 r ∧ 0 ≤ r ∧ r ≤ left ∧ Hid (∀ m ∈ L.take k, (m.length : Int) ≤ left ∧ ∀ z ∈ m, (z.size : Int) ≤ left) ∧ w = wr) (fun _ i _ => L.length - (intOf i).toNat)
    case atStart => exact ⟨0, left - L.length, Nat.zero_le _, rfl, rfl, by omega, by omega, Lib.hid (by simp), rfl⟩
    case round =>
      obtain ⟨k, r, hk, rfl, rfl, hr0, hr1, HL, rfl⟩ := hrel
      by_cases hlt : k < L.length
      · obtain ⟨b, off, x, rfl, hb, hcell, hx⟩ := HC.out k hlt
        have HX : Hid (ReadsS w.heap.size w x (L.getD k [])) := Lib.hid hx
        have HZM : Hid (∀ z ∈ L.getD k [], z.size ≤ maxLen) := Lib.hid (HZ.out _ (by simp [List.getD, hlt]))
        have HT : Hid (L.take (k + 1) = L.take k ++ [L.getD k []]) := Lib.hid (by rw [List.take_succ_eq_append_getElem hlt]; simp [List.getD, hlt])
        obtain ⟨m, hm⟩ : ∃ m, m = L.getD k [] := ⟨_, rfl⟩
        rw [← hm] at HX HZM HT
        clear hx hm
        go_wp2_with (go_at_call 14; refine (sz_strs m r (by omega) (by omega) _ _ HZM.out HX.out).mono ?_; rintro e w2 ⟨q, hq, rfl, rfl⟩; have HQ := Lib.hid hq; clear hq)
        · go_ret
          exact ⟨-1, ⟨by decide, fun h => by omega⟩, rfl, rfl⟩
        · have hq0 : 0 ≤ q := by omega
          have hqr := (HQ.out.2 hq0).1
          go_roundw
          case rel => exact ⟨k + 1, q, by omega, by go_num, rfl, hq0, by omega, Lib.hid (by
            intro y hy
            rw [HT.out] at hy
            rcases List.mem_append.1 hy with h | h
            · exact HL.out y h
            · obtain ⟨g1, g2, g3⟩ := HQ.out.2 hq0
              rw [List.mem_singleton.1 h]
              exact ⟨by omega, fun z hz => by have := g3 z hz; omega⟩), by trivial⟩
          case measure => simp [intOf]; omega
      · have HLF : Hid (∀ m ∈ L, (m.length : Int) ≤ left ∧ ∀ z ∈ m, (z.size : Int) ≤ left) := Lib.hid (by
          have h9 := HL.out
          rw [List.take_of_length_le (by omega)] at h9
          exact h9)
        go_wp2
        go_ret
        exact ⟨r, ⟨by omega, fun _ => ⟨hr1, by omega, HLF.out⟩⟩, rfl, rfl⟩

/-- The texts that markStringSS writes into rows of these lengths. -/
def marksN : Nat → List Nat → List (List ByteArray)
  | _, [] => []
  | k, n :: ns => smarks k n :: marksN (k + n) ns
theorem marksN_length : ∀ (ns : List Nat) (k : Nat), (marksN k ns).length = ns.length
  | [], _ => rfl
  | n :: ns, k => by rw [marksN, List.length_cons, marksN_length ns, List.length_cons]
theorem marksN_snoc : ∀ (ns : List Nat) (k n : Nat), marksN k (ns ++ [n]) = marksN k ns ++ [smarks (k + ns.sum) n]
  | [], k, n => by simp [marksN]
  | a :: ns, k, n => by
    rw [List.cons_append, marksN, marksN, marksN_snoc ns (k + a) n, List.cons_append, List.sum_cons, Nat.add_assoc]
theorem marksN_at : ∀ (ns : List Nat) (k j : Nat), j < ns.length → (marksN k ns).getD j [] = smarks (k + (ns.take j).sum) (ns.getD j 0)
  | a :: ns, k, 0, _ => by simp [marksN]
  | a :: ns, k, j + 1, h => by
    rw [marksN, List.getD_cons_succ, marksN_at ns (k + a) j (by simpa using h), List.getD_cons_succ, List.take_succ_cons, List.sum_cons, Nat.add_assoc]
def lensN (L : List (List ByteArray)) : List Nat := L.map List.length
theorem lensN_take {L : List (List ByteArray)} {k : Nat} (h : k < L.length) : (lensN L).take (k + 1) = (lensN L).take k ++ [(L.getD k []).length] := by
  unfold lensN
  rw [List.take_succ_eq_append_getElem (by simpa using h)]
  simp [List.getD, h]
theorem lensN_sum (L : List (List ByteArray)) (k b : Nat) (hb : ∀ m ∈ L, m.length ≤ b) : ((lensN L).take k).sum ≤ L.length * b := by
  have h1 : ∀ (ns : List Nat), (∀ n ∈ ns, n ≤ b) → ns.sum ≤ ns.length * b := by
    intro ns
    induction ns with
    | nil => intro _; simp
    | cons a ns ih =>
      intro h
      have := ih (fun n hn => h n (List.mem_cons_of_mem _ hn))
      have := h a (List.mem_cons_self ..)
      rw [List.sum_cons, List.length_cons, Nat.add_mul]
      omega
  refine Nat.le_trans (h1 _ (fun n hn => ?_)) (Nat.mul_le_mul_right b ?_)
  · obtain ⟨m, hm, rfl⟩ := List.mem_map.1 (List.mem_of_mem_take hn)
    exact hb m hm
  · rw [List.length_take, lensN, List.length_map]
    omega
/-- What has been marked after j rounds. -/
def markedN (k0 : Nat) (L : List (List ByteArray)) (j : Nat) : List (List ByteArray) := marksN k0 ((lensN L).take j) ++ L.drop j
theorem markedN_zero (k0 : Nat) (L : List (List ByteArray)) : markedN k0 L 0 = L := by simp [markedN, marksN]
theorem markedN_full (k0 : Nat) (L : List (List ByteArray)) : markedN k0 L L.length = marksN k0 (lensN L) := by
  unfold markedN
  rw [List.take_of_length_le (by simp [lensN])]
  simp
theorem markedN_length {k0 : Nat} {L : List (List ByteArray)} {j : Nat} (h : j ≤ L.length) : (markedN k0 L j).length = L.length := by
  unfold markedN
  rw [List.length_append, marksN_length, List.length_take, lensN, List.length_map, List.length_drop]
  omega
theorem markedN_at {k0 : Nat} {L : List (List ByteArray)} {j : Nat} (h : j < L.length) : (markedN k0 L j).getD j [] = L.getD j [] := by
  unfold markedN
  have hl : (marksN k0 ((lensN L).take j)).length = j := by rw [marksN_length, List.length_take, lensN, List.length_map]; omega
  rw [List.getD_eq_getElem?_getD, List.getElem?_append_right (by omega), hl, Nat.sub_self, List.getD_eq_getElem?_getD]
  simp
theorem markedN_set {k0 : Nat} {L : List (List ByteArray)} {j : Nat} (h : j < L.length) : (markedN k0 L j).set j (smarks (k0 + ((lensN L).take j).sum) (L.getD j []).length) = markedN k0 L (j + 1) := by
  unfold markedN
  have hl : (marksN k0 ((lensN L).take j)).length = j := by rw [marksN_length, List.length_take, lensN, List.length_map]; omega
  rw [List.set_append_right _ _ (by omega), hl, Nat.sub_self, List.drop_eq_getElem_cons h, List.set_cons_zero, lensN_take h, marksN_snoc, List.append_assoc]
  rfl
set_option maxRecDepth 100000 in
set_option maxHeartbeats 800000 in
/-- markStringSS at a row of rows of the call's own. -/
theorem mark_strss (base top : Nat) (v : Value) (L : List (List ByteArray)) (hl : L.length ≤ 1048576) (hm : ∀ m ∈ L, m.length ≤ 1048576) (k0 : Nat) (h0 : 1 ≤ k0) (h1 : k0 ≤ 1048576) (w : World) (ho : OwnT w base top v L) :
    Calls Try.prog 12 #[v, .int .i64 k0] w fun e w' => e = .returned (.int .i64 ((k0 + (lensN L).sum : Nat) : Int)) ∧ OwnT w' base top v (marksN k0 (lensN L)) ∧ KeptOut base top w w' := by
  have HM := Lib.hid hm
  have HSUM : Hid (∀ j, ((lensN L).take j).sum ≤ 1099511627776) := Lib.hid (fun j => by have := lensN_sum L j _ hm; have := Nat.mul_le_mul_right 1048576 hl; omega)
  obtain ⟨us0, ho⟩ := ho
  obtain ⟨a0, cap, rfl⟩ := ownV_slice ho.row
  have HO0 := Lib.hid ho
  clear ho hm
  go_enter Try.func12, Try.ntmps12
  go_wp2
  go_loopw [1, 5] (fun kv i wr => ∃ (j q : Nat), j ≤ L.length ∧ i = .int .i64 j ∧ kv = .int .i64 (k0 + q : Nat) ∧ Hid (((lensN L).take j).sum = q) ∧ Hid (∃ us, OwnN fS 1 33 9 wr base top (.slice a0 L.length cap) us (markedN k0 L j)) ∧ Hid (KeptOut base top w wr)) (fun _ i _ => L.length - (intOf i).toNat)
  case atStart => exact ⟨0, 0, Nat.zero_le _, rfl, by go_num, Lib.hid (by simp), Lib.hid ⟨us0, by rw [markedN_zero]; exact HO0.out⟩, Lib.hid (KeptOut.refl _ _ _)⟩
  case round =>
    obtain ⟨j, q, hj, rfl, rfl, HQ, ⟨us, hn⟩, HK⟩ := hrel
    have hq := HSUM.out j
    rw [HQ.out] at hq
    by_cases hlt : j < L.length
    · have hml := markedN_length (k0 := k0) (L := L) (j := j) hj
      obtain ⟨g, rfl, -, hcell, -, -⟩ := hn.cell (j := j) (by omega)
      have hin := hn.inner j (by omega)
      have hlow := hn.lows j (by omega)
      have htp := hn.tops j (by omega)
      rw [markedN_at hlt] at hin
      have HSET := Lib.hid (markedN_set (k0 := k0) hlt)
      rw [HQ.out] at HSET
      have hmb := HM.out (L.getD j []) (by simp [List.getD, hlt])
      have HLT := Lib.hid (lensN_take hlt)
      obtain ⟨m, hm⟩ : ∃ m, m = L.getD j [] := ⟨_, rfl⟩
      rw [← hm] at hin HSET hmb HLT
      obtain ⟨u, hu⟩ : ∃ u, u = us.getD j undef := ⟨_, rfl⟩
      rw [← hu] at hcell hin hlow htp
      have HU := Lib.hid hu
      have HIN := Lib.hid (own_sF hin)
      obtain ⟨a1, c1, rfl⟩ := ownV_slice hin
      have HN := Lib.hid hn
      have HLO := Lib.hid (fun k h => And.intro (hlow k h).1 (htp k h))
      have HJM : Hid (j < (markedN k0 L j).length) := Lib.hid (by omega)
      clear hm hu hin hn hlow htp hml
      go_wp2_with (go_at_call 27; refine (smark_any base m.length _ _ (by simp) (by omega) (k0 + q) (by omega) (by omega) _ HIN.out).mono ?_; rintro e w2 ⟨rfl, o2, g2⟩; have HO2 := Lib.hid (own_fS o2); have HG2 := Lib.hid g2; clear o2 g2)
      go_roundw
      case rel => exact ⟨j + 1, q + m.length, by omega, by go_num, by go_num, Lib.hid (by rw [HLT.out, List.sum_append, HQ.out]; simp), Lib.hid ⟨us, by
        rw [← HSET.out]
        refine HN.out.redo HJM.out (m := smarks (k0 + q) m.length) (by rw [← HU.out, smarks_length]; exact HO2.out) (by rw [← HU.out]; exact HG2.out)⟩, Lib.hid (HK.out.trans (KeptOut.of_grown HG2.out HLO.out))⟩
      case measure => simp [intOf]; omega
    · have hj' : j = L.length := by omega
      have HF : Hid (OwnT wr base top (.slice a0 L.length cap) (marksN k0 (lensN L))) := Lib.hid ⟨us, by have h9 := hn; rw [hj', markedN_full] at h9; exact h9⟩
      have HQF : Hid (k0 + q = k0 + (lensN L).sum) := Lib.hid (by rw [← HQ.out, List.take_of_length_le (by simp [lensN]; omega)])
      clear hn
      go_wp2
      go_ret
      exact ⟨by rw [HQF.out]; rfl, HF.out, HK.out⟩
theorem marksN_mem {k0 : Nat} {ns : List Nat} {m : List ByteArray} (h : m ∈ marksN k0 ns) : ∃ n ∈ ns, m.length = n := by
  induction ns generalizing k0 with
  | nil => cases h
  | cons a ns ih =>
    rw [marksN] at h
    rcases List.mem_cons.1 h with rfl | h
    · exact ⟨a, List.mem_cons_self .., smarks_length _ _⟩
    · obtain ⟨n, h1, h2⟩ := ih h
      exact ⟨n, List.mem_cons_of_mem _ h1, h2⟩
set_option maxHeartbeats 800000 in
/-- heldStringSS at a slice that reads as markStringSS left it. -/
theorem held_strss (ns : List Nat) (hl : ns.length ≤ 1048576) (hm : ∀ n ∈ ns, n ≤ 1048576) (k0 : Nat) (h0 : 1 ≤ k0) (h1 : k0 ≤ 1048576) (v : Value) (w : World) (hv : ReadsN w.heap.size w v (marksN k0 ns)) :
    Calls Try.prog 13 #[v, .int .i64 k0] w fun e w' => e = .returned (.int .i64 ((k0 + ns.sum : Nat) : Int)) ∧ Below w.heap.size w w' := by
  have HSUM : Hid (∀ j, (ns.take j).sum ≤ 1099511627776) := Lib.hid (fun j => by
    have h9 := lensN_sum (ns.map fun n => List.replicate n (⟨#[]⟩ : ByteArray)) j 1048576 (fun m hm' => by obtain ⟨n, hn, rfl⟩ := List.mem_map.1 hm'; rw [List.length_replicate]; exact hm n hn)
    have h8 : lensN (ns.map fun n => List.replicate n (⟨#[]⟩ : ByteArray)) = ns := by unfold lensN; rw [List.map_map]; conv => rhs; rw [← List.map_id ns]
                                                                                      exact List.map_congr_left (fun n _ => by simp)
    rw [h8, List.length_map] at h9
    have := Nat.mul_le_mul_right 1048576 hl
    omega)
  have HM := Lib.hid hm
  obtain ⟨-, a0, cap, rfl, -, hc⟩ := hv.cells
  rw [marksN_length] at hc ⊢
  have HC := Lib.hid hc
  clear hc hv hm
  go_enter Try.func13, Try.ntmps13
  go_wp2
  go_loopw [1, 5] (fun kv i wr => ∃ (j q : Nat), j ≤ ns.length ∧ i = .int .i64 j ∧ kv = .int .i64 (k0 + q : Nat) ∧ Hid ((ns.take j).sum = q) ∧ Below w.heap.size w wr) (fun _ i _ => ns.length - (intOf i).toNat)
  case atStart => exact ⟨0, 0, Nat.zero_le _, rfl, by go_num, Lib.hid (by simp), Below.refl _ _⟩
  case round =>
    obtain ⟨j, q, hj, rfl, rfl, HQ, hbl⟩ := hrel
    have hq := HSUM.out j
    rw [HQ.out] at hq
    by_cases hlt : j < ns.length
    · obtain ⟨b, off, u, rfl, hb, hcell, hu⟩ := HC.out j hlt
      rw [marksN_at ns k0 j hlt, HQ.out] at hu
      have hnb := HM.out (ns.getD j 0) (by simp [List.getD, hlt])
      have HT : Hid ((ns.take (j + 1)).sum = q + ns.getD j 0) := Lib.hid (by rw [List.take_succ_eq_append_getElem hlt, List.sum_append, HQ.out]; simp [List.getD, hlt])
      have hc1 := (hbl.cell (p := ⟨b, off + j, none⟩) hb).trans hcell
      have HU := Lib.hid (ReadsV.now hu hbl)
      obtain ⟨n, hn⟩ : ∃ n, n = ns.getD j 0 := ⟨_, rfl⟩
      rw [← hn] at hnb HT HU
      have HU2 : Hid (ReadsS wr.heap.size wr u (smarks (k0 + q) n)) := HU
      clear hcell hu hn HU
      go_wp2_with (go_at_call 28; refine (held_strs n (by omega) (k0 + q) (by omega) (by omega) _ _ HU2.out).mono ?_; rintro e w2 ⟨rfl, b2⟩; have HB2 := Lib.hid (hbl.trans (b2.mono hbl.size)); clear b2)
      go_roundw
      case rel => exact ⟨j + 1, q + n, by omega, by go_num, by go_num, HT, HB2.out⟩
      case measure => simp [intOf]; omega
    · have HQF : Hid (k0 + q = k0 + ns.sum) := Lib.hid (by rw [← HQ.out, List.take_of_length_le (by omega)])
      go_wp2
      go_ret
      exact ⟨by rw [HQF.out]; rfl, hbl⟩
end Go.Proofs.Ytmhgejljjjmejaa
