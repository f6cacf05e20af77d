/-
  The draws of chapter 11.
  The draws of chapter 11, second part: what the laws draw.
-/
import Derived.Test.YtgjijmcedonlmaaGreatDoorDrawGrid3
import Derived.Test.YtgjijmcedonlmaaGreatDoorDrawWord
import Derived.Test.YtgjijmcedonlmaaGreatDoorFillU
import Derived.Test.YtgjijmcedonlmaaGreatDoorSame
import Derived.Test.YtgjijmcedonlmaaGreatDoorDrawPat
import Derived.Deep.RegionWith
import Derived.Deep.DeepCutAuto
namespace Go.Proofs.YtgjijmcedonlmaaGreatDoor
open Go.RowKit

/-- A text of one to 36 bytes. -/
def TxtF (v : Value) : Prop := ∃ f : ByteArray, 1 ≤ f.size ∧ f.size ≤ 36 ∧ v = .string f
theorem putF_size (g : Int × Int × ByteArray) (f : ByteArray) (k : Int) (x : ByteArray) : (putF g f k x).1.size = f.size := by
  cases h : fitsP (patF g f k) x with
  | false => rw [putF_no h]
  | true => rw [putF_yes h]; exact (put_keeps h).1
theorem emF_size {g : Int × Int × ByteArray} (h : isG g = true) : (emF g).size = g.2.2.size := by
  unfold emF
  rw [if_pos h, arr_size, List.length_map, size_list]
set_option maxRecDepth 100000 in
set_option maxHeartbeats 1600000 in
theorem ldf_any (B : Nat) (w : World) (c n cap : Nat) (a0 : Option Addr) (hk : Cur B w c n cap a0) (gr gc : Int) (gs : ByteArray) (hg : isG (gr, gc, gs) = true) :
    Calls Tryz.prog 36 #[.pointer (some ⟨c, 0, none⟩), .agg #[.int .i64 gr, .int .i64 gc, .string gs]] w (Gives TxtF B w c n cap a0) := by
  obtain ⟨q4, q36, -, -⟩ := isG_four hg
  dsimp only at q4 q36
  have HEM := Lib.hid (fun w => semf_any gr gc gs (by omega) w)
  have HES : Hid ((emF (gr, gc, gs)).size = gs.size) := Lib.hid (emF_size hg)
  have HSL := Lib.hid (fun w => ssl_any gr gc gs (by omega) w)
  have HLEN := Lib.hid (slG_length (gr, gc, gs))
  have HPW := Lib.hid (fun (t : ByteArray) (k : Int) (x : ByteArray) (h : t.size ≤ 36) w => spw_any gr gc gs t k x (by omega) (by omega) w)
  have HPS := Lib.hid (fun t k x => putF_size (gr, gc, gs) t k x)
  obtain ⟨l, hl⟩ : ∃ l, l = slG (gr, gc, gs) := ⟨_, rfl⟩
  rw [← hl] at HSL HLEN
  clear hl
  have hl72 := HLEN.out
  obtain ⟨E, hE⟩ : ∃ E, E = emF (gr, gc, gs) := ⟨_, rfl⟩
  rw [← hE] at HEM HES
  clear hE hg
  have he1 : 1 ≤ E.size := by have := HES.out; omega
  have he36 : E.size ≤ 36 := by have := HES.out; omega
  have hBc : B ≤ c := hk.1
  have hwc : w.heap.size ≠ c := hk.ne
  have hcw : c < w.heap.size := cur_lt hk
  go_enter Tryz.func36, Tryz.ntmps36
  go_wp2_with fail
  obtain ⟨W0, hW0⟩ : ∃ W0, W0 = w.alloc (.cells #[.int .i64 gr, .int .i64 gc, .string gs] 25) := ⟨_, rfl⟩
  have HR0 : Hid (W0.heap[w.heap.size]? = some (.cells #[.int .i64 gr, .int .i64 gc, .string gs] 25)) := Lib.hid (by rw [hW0]; exact new_block w _)
  have HK0 : Hid (Cur B W0 c n cap a0) := Lib.hid (by rw [hW0]; exact hk.alloc _)
  have HG0 : Hid (w.grownBy W0 (some c)) := Lib.hid (by rw [hW0]; exact World.grownBy_alloc w _ _)
  rw [← hW0]
  clear hW0 hk
  obtain ⟨x0, x1, x2, fx0, fx1, fx2⟩ := cells3 HR0.out
  go_wp2_with (first | (go_at_call 74; refine (HEM.out _).mono ?_; rintro e w1 ⟨rfl, b1⟩; have HR1 := Lib.hid ((b1.block _ (size_of_heap HR0.out)).trans HR0.out); have HK1 := Lib.hid (cur_below HK0.out b1); have HG1 := Lib.hid (gtrans HG0.out (grows_of_below b1)); clear b1 x0 x1 x2 fx0 fx1 fx2; obtain ⟨x0, x1, x2, fx0, fx1, fx2⟩ := cells3 HR1.out) | (go_at_call 59; refine (HSL.out _).mono ?_; rintro e w2 ⟨v2, rfl, o2, b2⟩; obtain ⟨a2, cap2, rfl⟩ := ownV_slice o2; have HR2 := Lib.hid ((b2.block _ (size_of_heap HR1.out)).trans HR1.out); have HK2 := Lib.hid (cur_below HK1.out b2); have HG2 := Lib.hid (gtrans HG1.out (grows_of_below b2)); clear b2 o2 x0 x1 x2 fx0 fx1 fx2) | (go_at_call 39; refine (below_any 5 (by decide) (by decide) B _ c n cap a0 HK2.out).mono ?_; rintro e w3 ⟨v, ⟨xi, hx0, hx1, rfl⟩, rfl, hk3, hg3⟩; obtain ⟨m0, rfl⟩ : ∃ i : Nat, xi = (i : Int) := ⟨xi.toNat, by omega⟩; have HR3 := Lib.hid ((hg3.block _ (size_of_heap HR2.out) (by simpa using hwc)).trans HR2.out); have HG3 := Lib.hid (gtrans HG2.out hg3); have HK3 := Lib.hid hk3; clear hk3 hg3))
  clear HR0 HK0 HG0 HR1 HK1 HG1 HR2 HK2 HG2 HEM HSL
  go_loopw [5, 7] (fun o i wr => ∃ (m : Nat) (t : ByteArray), m ≤ 5 ∧ i = .int .i64 m ∧ o = .string t ∧ 1 ≤ t.size ∧ t.size ≤ 36 ∧ Hid (wr.heap[w.heap.size]? = some (.cells #[.int .i64 gr, .int .i64 gc, .string gs] 25)) ∧ Hid (Cur B wr c n cap a0) ∧ Hid (w.grownBy wr (some c))) (fun _ i _ => (intOf i).toNat)
  case atStart => exact ⟨m0, E, by omega, rfl, rfl, he1, he36, HR3, HK3, HG3⟩
  case round =>
    clear HR3 HK3 HG3
    obtain ⟨m, t, hm, rfl, rfl, ht1, ht36, HR, HK, HG⟩ := hrel
    by_cases hm0 : 0 < m
    · have hd : decide ((0 : Int) < (m : Int)) = true := decide_eq_true (by omega)
      have hd9 : decide (0 < m) = true := decide_eq_true hm0
      by_cases hl0 : 0 < l.length
      · have hd1 : decide ((0 : Int) < (l.length : Int)) = true := decide_eq_true (by omega)
        have hd2 : decide (0 < l.length) = true := decide_eq_true hl0
        have HKD : Hid (Cur B wr.drew c n cap a0) := Lib.hid HK.out
        have HGD := Lib.hid (grown_drew HG.out)
        obtain ⟨x0, x1, x2, fx0, fx1, fx2⟩ := cells3 HR.out
        have HPT := Lib.hid (fun k x w => HPW.out t k x ht36 w)
        have HPZ := Lib.hid (fun k x => HPS.out t k x)
        have hw1 : IntKind.i64.wrap ((m : Int) - 1) = (m : Int) - 1 := IntWalk.i64_in _ (by omega)
        go_wp2_with fail
        go_region_with (first | (go_at_call 39; refine (below_any (l.length : Int) (by omega) (by omega) B _ c n cap a0 (show Cur B _ c n cap a0 from HKD.out)).mono ?_; rintro e w5 ⟨v, ⟨yi, hy0, hy1, rfl⟩, rfl, hk5, hg5⟩; have HR5 := Lib.hid ((hg5.block _ (size_of_heap HR.out) (by simpa using hwc)).trans HR.out); have HG5 := Lib.hid (gtrans HGD.out hg5); have HK5 := Lib.hid hk5; clear hk5 hg5; obtain ⟨p0, p1, p2, fp0, fp1, fp2⟩ := cells3 HR5.out) | (go_at_call 76; refine (w4_any B _ c n cap a0 HK5.out).mono ?_; rintro e w6 ⟨v, ⟨z, hz, rfl⟩, rfl, hk6, hg6⟩; have HR6 := Lib.hid ((hg6.block _ (size_of_heap HR5.out) (by simpa using hwc)).trans HR5.out); have HG6 := Lib.hid (gtrans HG5.out hg6); have HK6 := Lib.hid hk6; clear hk6 hg6; obtain ⟨u0, u1, u2, fu0, fu1, fu2⟩ := cells3 HR6.out) | (go_at_call 75; refine (HPT.out yi z _).mono ?_; rintro e w7 ⟨rfl, b7⟩; have HR7 := Lib.hid ((b7.block _ (size_of_heap HR6.out)).trans HR6.out); have HG7 := Lib.hid (gtrans HG6.out (grows_of_below b7)); have HK7 := Lib.hid (cur_below HK6.out b7); have hsz := HPZ.out yi z; clear b7))
        all_goals go_wp2_with fail
        all_goals go_roundw
        all_goals first | exact ⟨m - 1, _, by omega, by congr 1; omega, rfl, by omega, by omega, HR7, HK7, HG7⟩ | (simp [intOf]; omega)
      · have hd1 : decide ((0 : Int) < (l.length : Int)) = false := decide_eq_false (by omega)
        have hd2 : decide (0 < l.length) = false := decide_eq_false hl0
        go_wp2
        go_ret
        exact ⟨_, ⟨t, ht1, ht36, rfl⟩, rfl, HK.out, HG.out⟩
    · have hd : decide ((0 : Int) < (m : Int)) = false := decide_eq_false (by omega)
      have hd9 : decide (0 < m) = false := decide_eq_false hm0
      go_wp2
      go_ret
      exact ⟨_, ⟨t, ht1, ht36, rfl⟩, rfl, HK.out, HG.out⟩
/-- A grid and a text. -/
def FillV (v : Value) : Prop := ∃ (r c : Int) (s f : ByteArray), (LO ≤ r ∧ r ≤ HI) ∧ (LO ≤ c ∧ c ≤ HI) ∧ s.size ≤ 40 ∧ f.size ≤ 40 ∧ v = .tuple #[.agg #[.int .i64 r, .int .i64 c, .string s], .string f]
end Go.Proofs.YtgjijmcedonlmaaGreatDoor
namespace Go.Proofs.YtgjijmcedonlmaaGreatDoor
open Go.RowKit

theorem cellSt {W : World} {base m cap : Nat} {e : TypeId} {a0 : Option Addr} {l : List ByteArray} (h : W.ownsRow base e 1 (.slice a0 m cap) m (l.map Value.string)) (hn : m = l.length) (j : Nat) (hj : j < l.length) :
    ∃ b, a0 = some ⟨b, 0, none⟩ ∧ W.cell? ⟨b, j, none⟩ = some (.string (l.getD j ⟨#[]⟩)) := by
  subst hn
  rcases h.2 with ⟨e9, hl⟩ | ⟨g, cap', cur, e9, -⟩
  · exfalso
    injection e9 with _ e8 _
    omega
  · cases e9
    refine ⟨g, rfl, ?_⟩
    rw [h.cellAt j (by omega)]
    simp [List.getD, hj]
theorem getD_memS {l : List ByteArray} {j : Nat} (h : j < l.length) : l.getD j ⟨#[]⟩ ∈ l := by
  rw [List.getD_eq_getElem?_getD, List.getElem?_eq_getElem h]
  exact List.getElem_mem h
end Go.Proofs.YtgjijmcedonlmaaGreatDoor
