/-
  The draws of chapter 11.
  The draws of chapter 11, second part: what the laws draw.
-/
import Derived.Test.YtpacopebdoflpaaGreatDoorDrawGrid3
import Derived.Test.YtpacopebdoflpaaGreatDoorDrawWord
import Derived.Test.YtpacopebdoflpaaGreatDoorFillU
import Derived.Test.YtpacopebdoflpaaGreatDoorSame
import Derived.Test.YtpacopebdoflpaaGreatDoorDrawPat
import Derived.Deep.RegionWith
import Derived.Deep.DeepCutAuto
namespace Go.Proofs.YtpacopebdoflpaaGreatDoor
open Go.RowKit

/-- A text of one to 36 bytes. -/
def TxtF (v : Value) : Prop := ∃ f : ByteArray, 1 ≤ f.size ∧ f.size ≤ 36 ∧ v = .string f
theorem putF_size (g : Int × Int × ByteArray) (f : ByteArray) (k : Int) (x : ByteArray) : (putF g f k x).1.size = f.size := by
  cases h : fitsP (patF g f k) x with
  | false => rw [putF_no h]
  | true => rw [putF_yes h]; exact (put_keeps h).1
theorem emF_size {g : Int × Int × ByteArray} (h : isG g = true) : (emF g).size = g.2.2.size := by
  unfold emF
  rw [if_pos h, arr_size, List.length_map, size_list]
set_option maxRecDepth 100000 in
set_option maxHeartbeats 1600000 in
theorem ldf_any (B : Nat) (w : World) (c n cap : Nat) (a0 : Option Addr) (hk : Cur B w c n cap a0) (gr gc : Int) (gs : ByteArray) (hg : isG (gr, gc, gs) = true) :
    Calls Tryz.prog 73 #[.pointer (some ⟨c, 0, none⟩), .agg #[.int .i64 gr, .int .i64 gc, .string gs]] w (Gives TxtF B w c n cap a0) := by
  obtain ⟨q4, q36, -, -⟩ := isG_four hg
  dsimp only at q4 q36
  have HEM := Lib.hid (fun w => semf_any gr gc gs (by omega) w)
  have HES : Hid ((emF (gr, gc, gs)).size = gs.size) := Lib.hid (emF_size hg)
  have HSL := Lib.hid (fun w => ssl_any gr gc gs (by omega) w)
  have HLEN := Lib.hid (slG_length (gr, gc, gs))
  have HPW := Lib.hid (fun (t : ByteArray) (k : Int) (x : ByteArray) (h : t.size ≤ 36) w => spw_any gr gc gs t k x (by omega) (by omega) w)
  have HPS := Lib.hid (fun t k x => putF_size (gr, gc, gs) t k x)
  obtain ⟨l, hl⟩ : ∃ l, l = slG (gr, gc, gs) := ⟨_, rfl⟩
  rw [← hl] at HSL HLEN
  clear hl
  have hl72 := HLEN.out
  obtain ⟨E, hE⟩ : ∃ E, E = emF (gr, gc, gs) := ⟨_, rfl⟩
  rw [← hE] at HEM HES
  clear hE hg
  have he1 : 1 ≤ E.size := by have := HES.out; omega
  have he36 : E.size ≤ 36 := by have := HES.out; omega
  have hBc : B ≤ c := hk.1
  have hwc : w.heap.size ≠ c := hk.ne
  have hcw : c < w.heap.size := cur_lt hk
  go_enter Tryz.func73, Tryz.ntmps73
  go_wp2_with fail
  obtain ⟨W0, hW0⟩ : ∃ W0, W0 = w.alloc (.cells #[.int .i64 gr, .int .i64 gc, .string gs] 25) := ⟨_, rfl⟩
  have HR0 : Hid (W0.heap[w.heap.size]? = some (.cells #[.int .i64 gr, .int .i64 gc, .string gs] 25)) := Lib.hid (by rw [hW0]; exact new_block w _)
  have HK0 : Hid (Cur B W0 c n cap a0) := Lib.hid (by rw [hW0]; exact hk.alloc _)
  have HG0 : Hid (w.grownBy W0 (some c)) := Lib.hid (by rw [hW0]; exact World.grownBy_alloc w _ _)
  rw [← hW0]
  clear hW0 hk
  obtain ⟨x0, x1, x2, fx0, fx1, fx2⟩ := cells3 HR0.out
  go_wp2_with (first | (go_at_call 90; refine (HEM.out _).mono ?_; rintro e w1 ⟨rfl, b1⟩; have HR1 := Lib.hid ((b1.block _ (size_of_heap HR0.out)).trans HR0.out); have HK1 := Lib.hid (cur_below HK0.out b1); have HG1 := Lib.hid (gtrans HG0.out (grows_of_below b1)); clear b1 x0 x1 x2 fx0 fx1 fx2; obtain ⟨x0, x1, x2, fx0, fx1, fx2⟩ := cells3 HR1.out) | (go_at_call 44; refine (HSL.out _).mono ?_; rintro e w2 ⟨v2, rfl, o2, b2⟩; obtain ⟨a2, cap2, rfl⟩ := ownV_slice o2; have HR2 := Lib.hid ((b2.block _ (size_of_heap HR1.out)).trans HR1.out); have HK2 := Lib.hid (cur_below HK1.out b2); have HG2 := Lib.hid (gtrans HG1.out (grows_of_below b2)); clear b2 o2 x0 x1 x2 fx0 fx1 fx2) | (go_at_call 25; refine (below_any 5 (by decide) (by decide) B _ c n cap a0 HK2.out).mono ?_; rintro e w3 ⟨v, ⟨xi, hx0, hx1, rfl⟩, rfl, hk3, hg3⟩; obtain ⟨m0, rfl⟩ : ∃ i : Nat, xi = (i : Int) := ⟨xi.toNat, by omega⟩; have HR3 := Lib.hid ((hg3.block _ (size_of_heap HR2.out) (by simpa using hwc)).trans HR2.out); have HG3 := Lib.hid (gtrans HG2.out hg3); have HK3 := Lib.hid hk3; clear hk3 hg3))
  clear HR0 HK0 HG0 HR1 HK1 HG1 HR2 HK2 HG2 HEM HSL
  go_loopw [5, 7] (fun o i wr => ∃ (m : Nat) (t : ByteArray), m ≤ 5 ∧ i = .int .i64 m ∧ o = .string t ∧ 1 ≤ t.size ∧ t.size ≤ 36 ∧ Hid (wr.heap[w.heap.size]? = some (.cells #[.int .i64 gr, .int .i64 gc, .string gs] 25)) ∧ Hid (Cur B wr c n cap a0) ∧ Hid (w.grownBy wr (some c))) (fun _ i _ => (intOf i).toNat)
  case atStart => exact ⟨m0, E, by omega, rfl, rfl, he1, he36, HR3, HK3, HG3⟩
  case round =>
    clear HR3 HK3 HG3
    obtain ⟨m, t, hm, rfl, rfl, ht1, ht36, HR, HK, HG⟩ := hrel
    by_cases hm0 : 0 < m
    · have hd : decide ((0 : Int) < (m : Int)) = true := decide_eq_true (by omega)
      have hd9 : decide (0 < m) = true := decide_eq_true hm0
      by_cases hl0 : 0 < l.length
      · have hd1 : decide ((0 : Int) < (l.length : Int)) = true := decide_eq_true (by omega)
        have hd2 : decide (0 < l.length) = true := decide_eq_true hl0
        have HKD : Hid (Cur B wr.drew c n cap a0) := Lib.hid HK.out
        have HGD := Lib.hid (grown_drew HG.out)
        obtain ⟨x0, x1, x2, fx0, fx1, fx2⟩ := cells3 HR.out
        have HPT := Lib.hid (fun k x w => HPW.out t k x ht36 w)
        have HPZ := Lib.hid (fun k x => HPS.out t k x)
        have hw1 : IntKind.i64.wrap ((m : Int) - 1) = (m : Int) - 1 := IntWalk.i64_in _ (by omega)
        go_wp2_with fail
        go_region_with (first | (go_at_call 25; refine (below_any (l.length : Int) (by omega) (by omega) B _ c n cap a0 (show Cur B _ c n cap a0 from HKD.out)).mono ?_; rintro e w5 ⟨v, ⟨yi, hy0, hy1, rfl⟩, rfl, hk5, hg5⟩; have HR5 := Lib.hid ((hg5.block _ (size_of_heap HR.out) (by simpa using hwc)).trans HR.out); have HG5 := Lib.hid (gtrans HGD.out hg5); have HK5 := Lib.hid hk5; clear hk5 hg5; obtain ⟨p0, p1, p2, fp0, fp1, fp2⟩ := cells3 HR5.out) | (go_at_call 41; refine (w4_any B _ c n cap a0 HK5.out).mono ?_; rintro e w6 ⟨v, ⟨z, hz, rfl⟩, rfl, hk6, hg6⟩; have HR6 := Lib.hid ((hg6.block _ (size_of_heap HR5.out) (by simpa using hwc)).trans HR5.out); have HG6 := Lib.hid (gtrans HG5.out hg6); have HK6 := Lib.hid hk6; clear hk6 hg6; obtain ⟨u0, u1, u2, fu0, fu1, fu2⟩ := cells3 HR6.out) | (go_at_call 91; refine (HPT.out yi z _).mono ?_; rintro e w7 ⟨rfl, b7⟩; have HR7 := Lib.hid ((b7.block _ (size_of_heap HR6.out)).trans HR6.out); have HG7 := Lib.hid (gtrans HG6.out (grows_of_below b7)); have HK7 := Lib.hid (cur_below HK6.out b7); have hsz := HPZ.out yi z; clear b7))
        all_goals go_wp2_with fail
        all_goals go_roundw
        all_goals first | exact ⟨m - 1, _, by omega, by congr 1; omega, rfl, by omega, by omega, HR7, HK7, HG7⟩ | (simp [intOf]; omega)
      · have hd1 : decide ((0 : Int) < (l.length : Int)) = false := decide_eq_false (by omega)
        have hd2 : decide (0 < l.length) = false := decide_eq_false hl0
        go_wp2
        go_ret
        exact ⟨_, ⟨t, ht1, ht36, rfl⟩, rfl, HK.out, HG.out⟩
    · have hd : decide ((0 : Int) < (m : Int)) = false := decide_eq_false (by omega)
      have hd9 : decide (0 < m) = false := decide_eq_false hm0
      go_wp2
      go_ret
      exact ⟨_, ⟨t, ht1, ht36, rfl⟩, rfl, HK.out, HG.out⟩
/-- A grid and a text. -/
def FillV (v : Value) : Prop := ∃ (r c : Int) (s f : ByteArray), (LO ≤ r ∧ r ≤ HI) ∧ (LO ≤ c ∧ c ≤ HI) ∧ s.size ≤ 40 ∧ f.size ≤ 40 ∧ v = .tuple #[.agg #[.int .i64 r, .int .i64 c, .string s], .string f]
set_option maxRecDepth 100000 in
set_option maxHeartbeats 3200000 in
theorem any11_any (B : Nat) (w : World) (c n cap : Nat) (a0 : Option Addr) (hk : Cur B w c n cap a0) :
    Calls Tryz.prog 40 #[.pointer (some ⟨c, 0, none⟩)] w (Gives FillV B w c n cap a0) := by
  go_enter Tryz.func40, Tryz.ntmps40
  go_wp2_with fail
  obtain ⟨W0, hW0⟩ : ∃ W0, W0 = w.alloc (.cells #[.int .i64 0, .int .i64 0, .string ⟨#[]⟩] 25) := ⟨_, rfl⟩
  have HR0 : Hid (W0.heap[w.heap.size]? = some (.cells #[.int .i64 0, .int .i64 0, .string ⟨#[]⟩] 25)) := Lib.hid (by rw [hW0]; exact new_block w _)
  have hk0 : Cur B W0 c n cap a0 := by rw [hW0]; exact hk.alloc _
  have HG0 : Hid (w.grownBy W0 (some c)) := Lib.hid (by rw [hW0]; exact World.grownBy_alloc w _ _)
  have hwc : w.heap.size ≠ c := hk.ne
  have hBc : B ≤ c := hk.1
  have hcw : c < w.heap.size := cur_lt hk
  rw [← hW0]
  clear hW0 hk
  go_wp2_with (first | (go_at_call 72; refine (draw7G_any B _ c n cap a0 hk0).mono ?_; rintro e w1 ⟨v, ⟨gr, gc, gs, hisg, rfl⟩, rfl, hk1, hg1⟩; have HR1 := Lib.hid ((hg1.block w.heap.size (size_of_heap HR0.out) (by simpa using hwc)).trans HR0.out); have HG1 := Lib.hid (gtrans HG0.out hg1); have HK1 := Lib.hid hk1; have HISG := Lib.hid hisg; clear hk0 hk1 hg1 hisg) | (go_at_call 73; refine (ldf_any B _ c n cap a0 (HK1.out.alloc (.cells #[.int .i64 gr, .int .i64 gc, .string gs] 25)) gr gc gs HISG.out).mono ?_; rintro e w2 ⟨v, ⟨f, hf1, hf36, rfl⟩, rfl, hk2, hg2⟩; have HR2 := Lib.hid ((hg2.block w.heap.size (by have := size_of_heap HR1.out; simp; omega) (by simpa using hwc)).trans ((Below.heap_alloc w1 (.cells #[.int .i64 gr, .int .i64 gc, .string gs] 25) w.heap.size (size_of_heap HR1.out)).trans HR1.out)); have HB2 := Lib.hid ((hg2.block w1.heap.size (by simp) (by have := cur_lt HK1.out; simp; omega)).trans (new_block w1 (.cells #[.int .i64 gr, .int .i64 gc, .string gs] 25))); have HG2 := Lib.hid (gtrans HG1.out (gtrans (World.grownBy_alloc w1 (.cells #[.int .i64 gr, .int .i64 gc, .string gs] 25) _) hg2)); have HK2 := Lib.hid hk2; clear hk2 hg2))
  refine (below_any 9 (by decide) (by decide) B _ c n cap a0 HK2.out).mono ?_
  rintro e w3 ⟨v, ⟨xi, hx0, hx1, rfl⟩, rfl, hk3, hg3⟩
  obtain ⟨q4, q36, qr, qc⟩ := isG_four HISG.out
  dsimp only at q4 q36 qr qc
  have hww : w.heap.size < w1.heap.size := size_of_heap HR1.out
  have hw1 := HG1.out.size
  have h1c : w1.heap.size ≠ c := by omega
  have hBw : B ≤ w1.heap.size := by omega
  have HR3 := Lib.hid ((hg3.block w.heap.size (size_of_heap HR2.out) (by simpa using hwc)).trans HR2.out)
  have HB3 := Lib.hid ((hg3.block w1.heap.size (size_of_heap HB2.out) (by simpa using h1c)).trans HB2.out)
  have HG3 := Lib.hid (gtrans HG2.out hg3)
  have HK3 := Lib.hid hk3
  have q1 : (1 : Int) ≤ (f.size : Int) := by omega
  clear hk3 hg3 HR0 HG0 HR1 HG1 HK1 HR2 HB2 HG2 HK2 HISG
  obtain ⟨x0, x1, x2, fx0, fx1, fx2⟩ := cells3 HB3.out
  obtain ⟨z0, z1, z2, y0, y1, y2⟩ := cells3 HR3.out
  obtain ⟨i, rfl⟩ : ∃ i : Nat, xi = (i : Int) := ⟨xi.toNat, by omega⟩
  rcases i with _ | _ | _ | _ | i
  · go_wp2
    exact bodyPost_ret (v := .tuple #[.agg #[.int .i64 gr, .int .i64 gc, .string gs], .string (f ++ ⟨#[63]⟩)]) (by simp [results, Tryz.results40, go_sem, z0, z1, z2]) rfl ⟨_, ⟨gr, gc, gs, f ++ ⟨#[63]⟩, qr, qc, by omega, by rw [ByteArray.size_append]; show f.size + 1 ≤ 40; omega, rfl⟩, rfl, cur_set (cur_set (cur_set HK3.out hwc (by omega) _ _) hwc (by omega) _ _) hwc (by omega) _ _, grown_new (grown_new (grown_new HG3.out (Nat.le_refl _) _ _) (Nat.le_refl _) _ _) (Nat.le_refl _) _ _⟩
  · go_wp2
    exact bodyPost_ret (v := .tuple #[.agg #[.int .i64 gr, .int .i64 gc, .string gs], .string (⟨#[65]⟩ ++ f.extract 1 f.size)]) (by simp [results, Tryz.results40, go_sem, z0, z1, z2]) rfl ⟨_, ⟨gr, gc, gs, ⟨#[65]⟩ ++ f.extract 1 f.size, qr, qc, by omega, by rw [ByteArray.size_append, ByteArray.size_extract]; show 1 + _ ≤ 40; omega, rfl⟩, rfl, cur_set (cur_set (cur_set HK3.out hwc (by omega) _ _) hwc (by omega) _ _) hwc (by omega) _ _, grown_new (grown_new (grown_new HG3.out (Nat.le_refl _) _ _) (Nat.le_refl _) _ _) (Nat.le_refl _) _ _⟩
  · go_wp2
    exact bodyPost_ret (v := .tuple #[.agg #[.int .i64 gr, .int .i64 gc, .string gs], .string (⟨#[35]⟩ ++ f.extract 1 f.size)]) (by simp [results, Tryz.results40, go_sem, z0, z1, z2]) rfl ⟨_, ⟨gr, gc, gs, ⟨#[35]⟩ ++ f.extract 1 f.size, qr, qc, by omega, by rw [ByteArray.size_append, ByteArray.size_extract]; show 1 + _ ≤ 40; omega, rfl⟩, rfl, cur_set (cur_set (cur_set HK3.out hwc (by omega) _ _) hwc (by omega) _ _) hwc (by omega) _ _, grown_new (grown_new (grown_new HG3.out (Nat.le_refl _) _ _) (Nat.le_refl _) _ _) (Nat.le_refl _) _ _⟩
  · go_wp2_with (go_at_call 67; refine (any7_any B _ c n cap a0 HK3.out).mono ?_; rintro e w4 ⟨v, ⟨ar, ac, as9, pr, pc, p1, p40, rfl⟩, rfl, hk4, hg4⟩; have HR4 := Lib.hid ((hg4.block w.heap.size (size_of_heap HR3.out) (by simpa using hwc)).trans HR3.out); have HB4 := Lib.hid ((hg4.block w1.heap.size (size_of_heap HB3.out) (by simpa using h1c)).trans HB3.out); have HG4 := Lib.hid (gtrans HG3.out hg4); have HK4 := Lib.hid hk4; clear hk4 hg4 x0 x1 x2 fx0 fx1 fx2 z0 z1 z2 y0 y1 y2; obtain ⟨x0, x1, x2, fx0, fx1, fx2⟩ := cells3 HB4.out; obtain ⟨z0, z1, z2, y0, y1, y2⟩ := cells3 HR4.out)
    exact bodyPost_ret (v := .tuple #[.agg #[.int .i64 ar, .int .i64 ac, .string as9], .string f]) (by simp [results, Tryz.results40, go_sem, z0, z1, z2]) rfl ⟨_, ⟨ar, ac, as9, f, pr, pc, by omega, by omega, rfl⟩, rfl, cur_set (cur_set (cur_set (cur_set (cur_set (cur_set HK4.out h1c hBw _ _) h1c hBw _ _) h1c hBw _ _) hwc (by omega) _ _) hwc (by omega) _ _) hwc (by omega) _ _, grown_new (grown_new (grown_new (grown_new (grown_new (grown_new HG4.out hw1 _ _) hw1 _ _) hw1 _ _) (Nat.le_refl _) _ _) (Nat.le_refl _) _ _) (Nat.le_refl _) _ _⟩
  · have e0 : (((i + 4 : Nat) : Int) == 0) = false := by simp; omega
    have e1 : (((i + 4 : Nat) : Int) == 1) = false := by simp; omega
    have e2 : (((i + 4 : Nat) : Int) == 2) = false := by simp; omega
    have e3 : (((i + 4 : Nat) : Int) == 3) = false := by simp; omega
    obtain ⟨k, hk⟩ : ∃ k, k = i + 4 := ⟨_, rfl⟩
    rw [show i + 1 + 1 + 1 + 1 = k from hk.symm]
    rw [← hk] at e0 e1 e2 e3
    clear hk
    go_wp2
    exact bodyPost_ret (v := .tuple #[.agg #[.int .i64 gr, .int .i64 gc, .string gs], .string f]) (by simp [results, Tryz.results40, go_sem, z0, z1, z2]) rfl ⟨_, ⟨gr, gc, gs, f, qr, qc, by omega, by omega, rfl⟩, rfl, cur_set (cur_set (cur_set HK3.out hwc (by omega) _ _) hwc (by omega) _ _) hwc (by omega) _ _, grown_new (grown_new (grown_new HG3.out (Nat.le_refl _) _ _) (Nat.le_refl _) _ _) (Nat.le_refl _) _ _⟩
end Go.Proofs.YtpacopebdoflpaaGreatDoor
namespace Go.Proofs.YtpacopebdoflpaaGreatDoor
open Go.RowKit

theorem cellSt {W : World} {base m cap : Nat} {e : TypeId} {a0 : Option Addr} {l : List ByteArray} (h : W.ownsRow base e 1 (.slice a0 m cap) m (l.map Value.string)) (hn : m = l.length) (j : Nat) (hj : j < l.length) :
    ∃ b, a0 = some ⟨b, 0, none⟩ ∧ W.cell? ⟨b, j, none⟩ = some (.string (l.getD j ⟨#[]⟩)) := by
  subst hn
  rcases h.2 with ⟨e9, hl⟩ | ⟨g, cap', cur, e9, -⟩
  · exfalso
    injection e9 with _ e8 _
    omega
  · cases e9
    refine ⟨g, rfl, ?_⟩
    rw [h.cellAt j (by omega)]
    simp [List.getD, hj]
theorem getD_memS {l : List ByteArray} {j : Nat} (h : j < l.length) : l.getD j ⟨#[]⟩ ∈ l := by
  rw [List.getD_eq_getElem?_getD, List.getElem?_eq_getElem h]
  exact List.getElem_mem h
set_option maxHeartbeats 1600000 in
theorem def_any (n cap : Nat) (a0 : Option Addr) (w : World) (hc : Code w.heap.size w a0 n) (hn : n ≤ 1048576) :
    Calls Tryz.prog 12 #[.slice a0 n cap] w fun e w' => ∃ (r c : Int) (s : ByteArray), (LO ≤ r ∧ r ≤ HI) ∧ (LO ≤ c ∧ c ≤ HI) ∧ s.size ≤ 40 ∧ e = .returned (.agg #[.int .i64 r, .int .i64 c, .string s]) ∧ Below w.heap.size w w' := by
  go_enter Tryz.func12, Tryz.ntmps12
  go_wp2_with fail
  obtain ⟨W0, hW0⟩ : ∃ W0, W0 = w.alloc (.cells #[.int .i64 0, .int .i64 0, .string ⟨#[]⟩] 25) := ⟨_, rfl⟩
  have HR0 : Hid (W0.heap[w.heap.size]? = some (.cells #[.int .i64 0, .int .i64 0, .string ⟨#[]⟩] 25)) := Lib.hid (by rw [hW0]; exact new_block w _)
  have HB0 : Hid (Below w.heap.size w W0) := Lib.hid (by rw [hW0]; exact (Below.refl _ _).alloc (Nat.le_refl _) _)
  have hc0 := code_later hc HB0.out
  rw [← hW0]
  clear hW0 hc
  go_wp2_with (first | (go_at_call 34; refine (dig_any n cap a0 _ hc0 hn).mono ?_; rintro e w2 ⟨gr, gc, gs, qr, qc, q40, rfl, b2⟩; have HR2 := Lib.hid ((b2.block w.heap.size (size_of_heap HR0.out)).trans HR0.out); have HB2 := Lib.hid (HB0.out.trans (b2.mono HB0.out.size)); clear b2; obtain ⟨z0, z1, z2, y0, y1, y2⟩ := cells3 HR2.out))
  exact bodyPost_ret (v := .agg #[.int .i64 gr, .int .i64 gc, .string gs]) (by simp [results, Tryz.results12, go_sem, z0, z1, z2]) rfl ⟨gr, gc, gs, qr, qc, q40, rfl, (((HB2.out.setCell (p := ⟨w.heap.size, 0, none⟩) (by simp) _).setCell (p := ⟨w.heap.size, 1, none⟩) (by simp) _).setCell (p := ⟨w.heap.size, 2, none⟩) (by simp) _)⟩
set_option maxHeartbeats 1600000 in
theorem dif_any (n cap : Nat) (a0 : Option Addr) (w : World) (hc : Code w.heap.size w a0 n) (hn : n ≤ 1048576) :
    Calls Tryz.prog 38 #[.slice a0 n cap] w fun e w' => ∃ (r c : Int) (s f : ByteArray), (LO ≤ r ∧ r ≤ HI) ∧ (LO ≤ c ∧ c ≤ HI) ∧ s.size ≤ 40 ∧ f.size ≤ 40 ∧ e = .returned (.tuple #[.agg #[.int .i64 r, .int .i64 c, .string s], .string f]) ∧ Below w.heap.size w w' := by
  go_enter Tryz.func38, Tryz.ntmps38
  go_wp2_with fail
  obtain ⟨W0, hW0⟩ : ∃ W0, W0 = w.alloc (.cells #[.int .i64 0, .int .i64 0, .string ⟨#[]⟩] 25) := ⟨_, rfl⟩
  have HR0 : Hid (W0.heap[w.heap.size]? = some (.cells #[.int .i64 0, .int .i64 0, .string ⟨#[]⟩] 25)) := Lib.hid (by rw [hW0]; exact new_block w _)
  have HB0 : Hid (Below w.heap.size w W0) := Lib.hid (by rw [hW0]; exact (Below.refl _ _).alloc (Nat.le_refl _) _)
  have hw0 : W0.heap.size = w.heap.size + 1 := by rw [hW0]; simp
  have hc0 := code_later hc HB0.out
  have HS0 := Lib.hid hw0
  rw [← hW0]
  clear hW0 hc hw0
  go_wp2_with (first | (go_at_call 19; refine (new_any n cap a0 _ hc0 hn).mono ?_; rintro e w1 ⟨c, rfl, hk, hb⟩; have HR1 := Lib.hid ((hb.block w.heap.size (size_of_heap HR0.out)).trans HR0.out); have HB1 := Lib.hid (HB0.out.trans (hb.mono HB0.out.size)); have hcw : w.heap.size + 1 ≤ c := (by have := hk.1; have := HS0.out; omega); clear hb) | (go_at_call 40; refine (any11_any _ _ c n cap a0 hk).mono ?_; rintro e w2 ⟨v, ⟨gr, gc, gs, gf, qr, qc, q40, qf, rfl⟩, rfl, hk2, hg2⟩; have HR2 := Lib.hid ((hg2.block w.heap.size (size_of_heap HR1.out) (by simp; omega)).trans HR1.out); have HB2 := Lib.hid (HB1.out.trans (below_grown2 hg2 (show w.heap.size ≤ c by omega) HB1.out.size)); clear hk hk2 hg2; obtain ⟨z0, z1, z2, y0, y1, y2⟩ := cells3 HR2.out))
  exact bodyPost_ret (v := .tuple #[.agg #[.int .i64 gr, .int .i64 gc, .string gs], .string gf]) (by simp [results, Tryz.results38, go_sem, z0, z1, z2]) rfl ⟨gr, gc, gs, gf, qr, qc, q40, qf, rfl, (((HB2.out.setCell (p := ⟨w.heap.size, 0, none⟩) (by simp) _).setCell (p := ⟨w.heap.size, 1, none⟩) (by simp) _).setCell (p := ⟨w.heap.size, 2, none⟩) (by simp) _)⟩
set_option maxHeartbeats 1600000 in
theorem diff_any (n cap : Nat) (a0 : Option Addr) (w : World) (hc : Code w.heap.size w a0 n) (hn : n ≤ 1048576) :
    Calls Tryz.prog 15 #[.slice a0 n cap] w fun e w' => ∃ (r c : Int) (s f : ByteArray), (LO ≤ r ∧ r ≤ HI) ∧ (LO ≤ c ∧ c ≤ HI) ∧ s.size ≤ 40 ∧ f.size ≤ 40 ∧ e = .returned (.tuple #[.agg #[.int .i64 r, .int .i64 c, .string s], .string f]) ∧ Below w.heap.size w w' := by
  go_enter Tryz.func15, Tryz.ntmps15
  go_wp2_with fail
  obtain ⟨W0, hW0⟩ : ∃ W0, W0 = w.alloc (.cells #[.int .i64 0, .int .i64 0, .string ⟨#[]⟩] 25) := ⟨_, rfl⟩
  have HR0 : Hid (W0.heap[w.heap.size]? = some (.cells #[.int .i64 0, .int .i64 0, .string ⟨#[]⟩] 25)) := Lib.hid (by rw [hW0]; exact new_block w _)
  have HB0 : Hid (Below w.heap.size w W0) := Lib.hid (by rw [hW0]; exact (Below.refl _ _).alloc (Nat.le_refl _) _)
  have hc0 := code_later hc HB0.out
  rw [← hW0]
  clear hW0 hc
  go_wp2_with (first | (go_at_call 38; refine (dif_any n cap a0 _ hc0 hn).mono ?_; rintro e w2 ⟨gr, gc, gs, gf, qr, qc, q40, qf, rfl, b2⟩; have HR2 := Lib.hid ((b2.block w.heap.size (size_of_heap HR0.out)).trans HR0.out); have HB2 := Lib.hid (HB0.out.trans (b2.mono HB0.out.size)); clear b2; obtain ⟨z0, z1, z2, y0, y1, y2⟩ := cells3 HR2.out))
  exact bodyPost_ret (v := .tuple #[.agg #[.int .i64 gr, .int .i64 gc, .string gs], .string gf]) (by simp [results, Tryz.results15, go_sem, z0, z1, z2]) rfl ⟨gr, gc, gs, gf, qr, qc, q40, qf, rfl, (((HB2.out.setCell (p := ⟨w.heap.size, 0, none⟩) (by simp) _).setCell (p := ⟨w.heap.size, 1, none⟩) (by simp) _).setCell (p := ⟨w.heap.size, 2, none⟩) (by simp) _)⟩
set_option maxHeartbeats 1600000 in
theorem dspt_any (n cap : Nat) (a0 : Option Addr) (w : World) (hc : Code w.heap.size w a0 n) (hn : n ≤ 1048576) :
    Calls Tryz.prog 18 #[.slice a0 n cap] w fun e w' => ∃ (r c : Int) (s f : ByteArray) (k : Int), (LO ≤ r ∧ r ≤ HI) ∧ (LO ≤ c ∧ c ≤ HI) ∧ s.size ≤ 40 ∧ f.size ≤ 40 ∧ (-1 ≤ k ∧ k ≤ 8) ∧ e = .returned (.tuple #[.agg #[.int .i64 r, .int .i64 c, .string s], .string f, .int .i64 k]) ∧ Below w.heap.size w w' := by
  go_enter Tryz.func18, Tryz.ntmps18
  go_wp2_with fail
  obtain ⟨W0, hW0⟩ : ∃ W0, W0 = w.alloc (.cells #[.int .i64 0, .int .i64 0, .string ⟨#[]⟩] 25) := ⟨_, rfl⟩
  have HR0 : Hid (W0.heap[w.heap.size]? = some (.cells #[.int .i64 0, .int .i64 0, .string ⟨#[]⟩] 25)) := Lib.hid (by rw [hW0]; exact new_block w _)
  have HB0 : Hid (Below w.heap.size w W0) := Lib.hid (by rw [hW0]; exact (Below.refl _ _).alloc (Nat.le_refl _) _)
  have hw0 : W0.heap.size = w.heap.size + 1 := by rw [hW0]; simp
  have hc0 := code_later hc HB0.out
  have HS0 := Lib.hid hw0
  rw [← hW0]
  clear hW0 hc hw0
  go_wp2_with (first | (go_at_call 19; refine (new_any n cap a0 _ hc0 hn).mono ?_; rintro e w1 ⟨c, rfl, hk, hb⟩; have HR1 := Lib.hid ((hb.block w.heap.size (size_of_heap HR0.out)).trans HR0.out); have HB1 := Lib.hid (HB0.out.trans (hb.mono HB0.out.size)); have hcw : w.heap.size + 1 ≤ c := (by have := hk.1; have := HS0.out; omega); clear hb) | (go_at_call 40; refine (any11_any _ _ c n cap a0 hk).mono ?_; rintro e w2 ⟨v, ⟨gr, gc, gs, gf, qr, qc, q40, qf, rfl⟩, rfl, hk2, hg2⟩; have HR2 := Lib.hid ((hg2.block w.heap.size (size_of_heap HR1.out) (by simp; omega)).trans HR1.out); have HB2 := Lib.hid (HB1.out.trans (below_grown2 hg2 (show w.heap.size ≤ c by omega) HB1.out.size)); have HK2 := Lib.hid hk2; clear hk hk2 hg2))
  obtain ⟨W3, hW3⟩ : ∃ W3, W3 = w2.alloc (.cells #[.int .i64 gr, .int .i64 gc, .string gs] 25) := ⟨_, rfl⟩
  have HR3 : Hid (W3.heap[w.heap.size]? = some (.cells #[.int .i64 0, .int .i64 0, .string ⟨#[]⟩] 25)) := Lib.hid (by rw [hW3]; exact (Below.heap_alloc _ _ _ (size_of_heap HR2.out)).trans HR2.out)
  have HG3 : Hid (W3.heap[w2.heap.size]? = some (.cells #[.int .i64 gr, .int .i64 gc, .string gs] 25)) := Lib.hid (by rw [hW3]; exact new_block w2 _)
  have HB3 : Hid (Below w.heap.size w W3) := Lib.hid (by rw [hW3]; exact HB2.out.alloc HB2.out.size _)
  have hk3 : Cur W0.heap.size W3 c n cap a0 := by rw [hW3]; exact HK2.out.alloc _
  have h2c : w2.heap.size ≠ c := HK2.out.ne
  rw [← hW3]
  clear hW3
  obtain ⟨x0, x1, x2, fx0, fx1, fx2⟩ := cells3 HG3.out
  have HRD : Hid (W3.drew.heap[w.heap.size]? = some (.cells #[.int .i64 0, .int .i64 0, .string ⟨#[]⟩] 25)) := Lib.hid HR3.out
  have HGD : Hid (W3.drew.heap[w2.heap.size]? = some (.cells #[.int .i64 gr, .int .i64 gc, .string gs] 25)) := Lib.hid HG3.out
  have HBD : Hid (Below w.heap.size w W3.drew) := Lib.hid HB3.out.drew
  have hkd : Cur W0.heap.size W3.drew c n cap a0 := hk3
  go_region_with (first | (go_at_call 25; refine (below_any 9 (by decide) (by decide) _ _ c n cap a0 hkd).mono ?_; rintro e w4 ⟨v, ⟨y, hy0, hy1, rfl⟩, rfl, hk4, hg4⟩; have HR4 := Lib.hid ((hg4.block w.heap.size (size_of_heap HRD.out) (by simp; omega)).trans HRD.out); have HG4 := Lib.hid ((hg4.block w2.heap.size (size_of_heap HGD.out) (by simpa using h2c)).trans HGD.out); have HB4 := Lib.hid (HBD.out.trans (below_grown2 hg4 (show w.heap.size ≤ c by omega) HBD.out.size)); have hwy : IntKind.i64.wrap (y - 1) = y - 1 := IntWalk.i64_in _ (by omega); clear hk4 hg4; obtain ⟨u0, u1, u2, fu0, fu1, fu2⟩ := cells3 HG4.out; obtain ⟨z0, z1, z2, y0, y1, y2⟩ := cells3 HR4.out))
  all_goals go_wp2
  all_goals exact bodyPost_ret (v := .tuple #[.agg #[.int .i64 gr, .int .i64 gc, .string gs], .string gf, .int .i64 (y - 1)]) (by simp [results, Tryz.results18, go_sem, z0, z1, z2]) rfl ⟨gr, gc, gs, gf, y - 1, qr, qc, q40, qf, ⟨by omega, by omega⟩, rfl, (((HB4.out.setCell (p := ⟨w.heap.size, 0, none⟩) (by simp) _).setCell (p := ⟨w.heap.size, 1, none⟩) (by simp) _).setCell (p := ⟨w.heap.size, 2, none⟩) (by simp) _)⟩
set_option maxRecDepth 100000 in
set_option maxHeartbeats 3200000 in
theorem dpw_any (n cap : Nat) (a0 : Option Addr) (w : World) (hc : Code w.heap.size w a0 n) (hn : n ≤ 1048576) :
    Calls Tryz.prog 5 #[.slice a0 n cap] w fun e w' => ∃ (r c : Int) (s f : ByteArray) (k : Int) (x : ByteArray), (LO ≤ r ∧ r ≤ HI) ∧ (LO ≤ c ∧ c ≤ HI) ∧ s.size ≤ 40 ∧ f.size ≤ 40 ∧ (-1 ≤ k ∧ k ≤ 8) ∧ x.size ≤ 10 ∧ e = .returned (.tuple #[.agg #[.int .i64 r, .int .i64 c, .string s], .string f, .int .i64 k, .string x]) ∧ Below w.heap.size w w' := by
  go_enter Tryz.func5, Tryz.ntmps5
  go_wp2_with fail
  obtain ⟨W0, hW0⟩ : ∃ W0, W0 = w.alloc (.cells #[.int .i64 0, .int .i64 0, .string ⟨#[]⟩] 25) := ⟨_, rfl⟩
  have HR0 : Hid (W0.heap[w.heap.size]? = some (.cells #[.int .i64 0, .int .i64 0, .string ⟨#[]⟩] 25)) := Lib.hid (by rw [hW0]; exact new_block w _)
  have HB0 : Hid (Below w.heap.size w W0) := Lib.hid (by rw [hW0]; exact (Below.refl _ _).alloc (Nat.le_refl _) _)
  have hc0 := code_later hc HB0.out
  rw [← hW0]
  clear hW0 hc
  go_wp2_with (first | (go_at_call 18; refine (dspt_any n cap a0 _ hc0 hn).mono ?_; rintro e w1 ⟨gr, gc, gs, gf, gk, qr, qc, q40, qf, qk, rfl, b1⟩; have HR1 := Lib.hid ((b1.block w.heap.size (size_of_heap HR0.out)).trans HR0.out); have HB1 := Lib.hid (HB0.out.trans (b1.mono HB0.out.size)); have HA1 := Lib.hid ((Below.refl w1.heap.size w1).alloc (Nat.le_refl _) (.cells #[.int .i64 gr, .int .i64 gc, .string gs] 25)); have HG2 := Lib.hid (new_block w1 (.cells #[.int .i64 gr, .int .i64 gc, .string gs] 25)); have HR2 := Lib.hid ((HA1.out.block _ (size_of_heap HR1.out)).trans HR1.out); have HB2 := Lib.hid (HB1.out.trans (HA1.out.mono HB1.out.size)); have hc2 := code_later (code_later hc0 b1) HA1.out; clear b1) | (go_at_call 19; refine (new_any n cap a0 _ hc2 hn).mono ?_; rintro e w3 ⟨c, rfl, hk, hb⟩; have HR3 := Lib.hid ((hb.block _ (size_of_heap HR2.out)).trans HR2.out); have HG3 := Lib.hid ((hb.block _ (size_of_heap HG2.out)).trans HG2.out); have HB3 := Lib.hid (HB2.out.trans (hb.mono HB2.out.size)); have hcw : w1.heap.size + 1 ≤ c := (by have := hk.1; simp at this; omega); have HK3 := Lib.hid hk; clear hb hk) | (go_at_call 20; refine (a4_any _ _ c n cap a0 HK3.out).mono ?_; rintro e w4 ⟨v, ⟨x, hx, rfl⟩, rfl, hk4, hg4⟩; have hww : w.heap.size < w1.heap.size := size_of_heap HR1.out; have HR4 := Lib.hid ((hg4.block _ (size_of_heap HR3.out) (by simp; omega)).trans HR3.out); have HG4 := Lib.hid ((hg4.block _ (size_of_heap HG3.out) (by simp; omega)).trans HG3.out); have HB4 := Lib.hid (HB3.out.trans (below_grown2 hg4 (show w.heap.size ≤ c by omega) HB3.out.size)); have HK4 := Lib.hid hk4; have hc4 := cur_lt hk4; clear hk4 hg4))
  clear HR0 HB0 HR1 HB1 HA1 HG2 HR2 HB2 hc2 HR3 HG3 HB3 HK3 hc0
  have HSP := Lib.hid (fun w => spat_any gr gc gs gf gk (by omega) (by omega) w)
  obtain ⟨P, hP⟩ : ∃ P, P = patF (gr, gc, gs) gf gk := ⟨_, rfl⟩
  rw [← hP] at HSP
  clear hP
  have HGK : Hid (∀ W, Below w4.heap.size w4 W → W.cell? ⟨w1.heap.size, 0, none⟩ = some (.int .i64 gr) ∧ W.cell? ⟨w1.heap.size, 1, none⟩ = some (.int .i64 gc) ∧ W.cell? ⟨w1.heap.size, 2, none⟩ = some (.string gs)) := Lib.hid (fun W h => by
    obtain ⟨x0, x1, x2, -⟩ := cells3 ((h.block _ (size_of_heap HG4.out)).trans HG4.out)
    exact ⟨x0, x1, x2⟩)
  go_cut [11] (fun v wx => ∃ (L : List ByteArray) (a : Option Addr) (cp : Nat), v = .slice a L.length cp ∧ L.length ≤ 35 ∧ Hid (∀ z ∈ L, z.size ≤ 5) ∧ Hid (wx.ownsRow w4.heap.size 9 1 (.slice a L.length cp) L.length (L.map Value.string)) ∧ Hid (Below w4.heap.size w4 wx))
  case first =>
    have hbn : Below w4.heap.size w4 w4 := Below.refl _ _
    have HL0 := Lib.hid trivial
    go_region_held3 (fun W => W.cell? ⟨w1.heap.size, 0, none⟩ = some (.int .i64 gr) ∧ W.cell? ⟨w1.heap.size, 1, none⟩ = some (.int .i64 gc) ∧ W.cell? ⟨w1.heap.size, 2, none⟩ = some (.string gs)) (first | exact HGK.out _ hbn | exact HGK.out _ hbn.drew) (first | (go_at_call 22; refine Calls.mono (ws4_any _) ?_; rintro e w5 ⟨o, rfl, he5, hl⟩; rw [← he5] at hl; have hbm : Below w4.heap.size w4 w5 := (by rw [he5]; first | exact hbn.alloc hbn.size o | exact (hbn.drew).alloc hbn.size o); have hlt5 : w4.heap.size < w5.heap.size := (by rw [he5]; simp); clear he5; obtain ⟨L0, hl1, hl2, hl3⟩ := pick_strs 35 hl; have HL1 := Lib.hid (readsS_cells (b := w4.heap.size) hlt5 (by decide) hl1 hl3); have HL2 := Lib.hid hl2; have hl35 := hl1; clear hbn hl hl1 hl2 hl3; have hbn := hbm; clear hbm hlt5) | (go_at_call 23; refine Calls.mono (HSP.out _) ?_; rintro e w6 ⟨rfl, b6⟩; have HL3 := Lib.hid (HL1.out.now (by first | exact b6 | exact (Below.refl _ _).drew.trans b6)); have hbm : Below w4.heap.size w4 _ := (by first | exact hbn.trans (b6.mono hbn.size) | exact hbn.drew.trans (b6.mono hbn.drew.size) | exact hbn.drew.trans b6); clear hbn; have hbn := hbm; clear hbm b6) | (go_at_call 21; refine Calls.mono (swf_any L0 P (by omega) _ _ (by first | exact HL3.out | exact HL3.out.now ((Below.refl _ _).drew))) ?_; rintro e w7 ⟨v7, rfl, o7, b7⟩; obtain ⟨a7, cap7, rfl⟩ := ownV_slice o7; have HO7 := Lib.hid (own_widen o7 (by first | exact hbn.size | exact hbn.drew.size)); have hbm : Below w4.heap.size w4 _ := (by first | exact hbn.trans (b7.mono hbn.size) | exact hbn.drew.trans (b7.mono hbn.drew.size) | exact hbn.drew.trans b7); clear hbn; have hbn := hbm; clear hbm b7 o7))
    all_goals (go_wp2_with fail; go_meet; exact ⟨fitW L0 P, a7, cap7, rfl, by have := fitW_length L0 P; omega, Lib.hid (fun z hz => HL2.out z (List.mem_filter.1 hz).1), HO7, Lib.hid hbn⟩)
  case rest =>
  obtain ⟨L, a, cp, rfl, hl35, HLZ, HO, HBC⟩ := hcut
  obtain ⟨w5, hw5⟩ : ∃ w5, w5 = wc := ⟨_, rfl⟩
  rw [← hw5] at HO HBC ⊢
  clear hw5
  have HK5 := Lib.hid (cur_below HK4.out HBC.out)
  have HR5 := Lib.hid ((HBC.out.block _ (size_of_heap HR4.out)).trans HR4.out)
  have HG5 := Lib.hid ((HBC.out.block _ (size_of_heap HG4.out)).trans HG4.out)
  have HB5 := Lib.hid (HB4.out.trans (HBC.out.mono HB4.out.size))
  clear HK4 HR4 HG4 HB4 HBC HGK HSP
  by_cases h0 : 0 < L.length
  · have hd : decide ((0 : Int) < (L.length : Int)) = true := decide_eq_true (by omega)
    have hd9 : decide (0 < L.length) = true := decide_eq_true h0
    go_wp2_with fail
    refine (once_any 3 (by decide) (by decide) _ _ c n cap a0 HK5.out).mono ?_
    rintro e w6 ⟨v, ⟨b, rfl⟩, rfl, hk6, hg6⟩
    have HR6 := Lib.hid ((hg6.block _ (size_of_heap HR5.out) (by simp; omega)).trans HR5.out)
    have HG6 := Lib.hid ((hg6.block _ (size_of_heap HG5.out) (by simp; omega)).trans HG5.out)
    have HB6 := Lib.hid (HB5.out.trans (below_grown2 hg6 (show w.heap.size ≤ c by omega) HB5.out.size))
    have HO6 := Lib.hid (HO.out.kept hg6 (own_not HO.out hc4))
    have HK6 := Lib.hid hk6
    clear hk6 hg6
    cases b with
    | false =>
      obtain ⟨x0, x1, x2, fx0, fx1, fx2⟩ := cells3 HG6.out
      obtain ⟨z0, z1, z2, y0, y1, y2⟩ := cells3 HR6.out
      go_wp2_with (go_at_call 25; refine (below_any (L.length : Int) (by omega) (by omega) _ _ c n cap a0 HK6.out).mono ?_; rintro e w7 ⟨v, ⟨yi, hy0, hy1, rfl⟩, rfl, hk7, hg7⟩; obtain ⟨j, rfl⟩ : ∃ i : Nat, yi = (i : Int) := ⟨yi.toNat, by omega⟩; have hj : j < L.length := (by omega); have HR7 := Lib.hid ((hg7.block _ (size_of_heap HR6.out) (by simp; omega)).trans HR6.out); have HG7 := Lib.hid ((hg7.block _ (size_of_heap HG6.out) (by simp; omega)).trans HG6.out); have HB7 := Lib.hid (HB6.out.trans (below_grown2 hg7 (show w.heap.size ≤ c by omega) HB6.out.size)); have HO7 := Lib.hid (HO6.out.kept hg7 (own_not HO6.out hc4)); obtain ⟨bs, rfl, q0⟩ := cellSt HO7.out rfl j hj; have HXZ := Lib.hid (HLZ.out _ (getD_memS hj)); obtain ⟨y, hy⟩ : ∃ y, y = L.getD j ⟨#[]⟩ := ⟨_, rfl⟩; rw [← hy] at q0 HXZ; clear hy; clear hk7 hg7 x0 x1 x2 fx0 fx1 fx2 z0 z1 z2 y0 y1 y2; obtain ⟨x0, x1, x2, fx0, fx1, fx2⟩ := cells3 HG7.out; obtain ⟨z0, z1, z2, y0, y1, y2⟩ := cells3 HR7.out)
      exact bodyPost_ret (v := .tuple #[.agg #[.int .i64 gr, .int .i64 gc, .string gs], .string gf, .int .i64 gk, .string y]) (by simp [results, Tryz.results5, go_sem, z0, z1, z2]) rfl ⟨gr, gc, gs, gf, gk, y, qr, qc, q40, qf, qk, by have := HXZ.out; omega, rfl, (((HB7.out.setCell (p := ⟨w.heap.size, 0, none⟩) (by simp) _).setCell (p := ⟨w.heap.size, 1, none⟩) (by simp) _).setCell (p := ⟨w.heap.size, 2, none⟩) (by simp) _)⟩
    | true =>
      obtain ⟨x0, x1, x2, fx0, fx1, fx2⟩ := cells3 HG6.out
      obtain ⟨z0, z1, z2, y0, y1, y2⟩ := cells3 HR6.out
      go_wp2
      exact bodyPost_ret (v := .tuple #[.agg #[.int .i64 gr, .int .i64 gc, .string gs], .string gf, .int .i64 gk, .string x]) (by simp [results, Tryz.results5, go_sem, z0, z1, z2]) rfl ⟨gr, gc, gs, gf, gk, x, qr, qc, q40, qf, qk, hx, rfl, (((HB6.out.setCell (p := ⟨w.heap.size, 0, none⟩) (by simp) _).setCell (p := ⟨w.heap.size, 1, none⟩) (by simp) _).setCell (p := ⟨w.heap.size, 2, none⟩) (by simp) _)⟩
  · have hd : decide ((0 : Int) < (L.length : Int)) = false := decide_eq_false (by omega)
    have hd9 : decide (0 < L.length) = false := decide_eq_false h0
    obtain ⟨x0, x1, x2, fx0, fx1, fx2⟩ := cells3 HG5.out
    obtain ⟨z0, z1, z2, y0, y1, y2⟩ := cells3 HR5.out
    go_wp2
    exact bodyPost_ret (v := .tuple #[.agg #[.int .i64 gr, .int .i64 gc, .string gs], .string gf, .int .i64 gk, .string x]) (by simp [results, Tryz.results5, go_sem, z0, z1, z2]) rfl ⟨gr, gc, gs, gf, gk, x, qr, qc, q40, qf, qk, hx, rfl, (((HB5.out.setCell (p := ⟨w.heap.size, 0, none⟩) (by simp) _).setCell (p := ⟨w.heap.size, 1, none⟩) (by simp) _).setCell (p := ⟨w.heap.size, 2, none⟩) (by simp) _)⟩
end Go.Proofs.YtpacopebdoflpaaGreatDoor
