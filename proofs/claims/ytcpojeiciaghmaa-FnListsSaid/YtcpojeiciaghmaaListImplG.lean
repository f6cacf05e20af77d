/-
  The program's contract of AddWord.
-/
import Derived.Test.YtcpojeiciaghmaaListImplF
import Derived.Deep.RegionHeld3
namespace Go.Proofs.Ytcpojeiciaghmaa
open Go.RowKit

set_option maxHeartbeats 1600000 in
/-- listOr, a longer list. -/
theorem ilor_big (l m : LZ) (n : Nat) (hn : m.length = n) (hl : l.length ≤ 1048576) (hm : m.length ≤ 16777216) (base : Nat) (v u : Value) (w : World) (hb : base ≤ w.heap.size) (hv : ReadsListed w.heap.size w v l) (hu : w.ownsRow base 32 4 u n (row_Listed m)) :
    Calls Try.prog 49 #[v, u] w fun e w' => ∃ v', e = .returned (.tuple #[v', .bool (islW m)]) ∧ w'.ownsRow base 32 4 v' (if islW m = true then m else l).length (row_Listed (if islW m = true then m else l)) ∧ Below w.heap.size w w' := by
  subst hn
  have HV := Lib.hid hv
  have HU := Lib.hid hu
  have HIS := Lib.hid (iislist_any m (by omega) u w (reads_Listed_own hu rfl (by omega)))
  have HCL := Lib.hid (fun w h => clone_l l hl v w h)
  obtain ⟨-, a0, cap, rfl, -, -⟩ := hv.cells
  obtain ⟨a1, c1, rfl⟩ := ownV_slice hu
  obtain ⟨p, hp⟩ : ∃ p, p = islW m := ⟨_, rfl⟩
  obtain ⟨r, hr⟩ : ∃ r, r = if p = true then m else l := ⟨_, rfl⟩
  have HR := Lib.hid hr
  rw [← hp] at HIS ⊢
  rw [← hr]
  clear hv hu hp hr
  cases p with
  | true =>
    go_enter Try.func49, Try.ntmps49
    go_wp2_with (go_at_call 13; refine HIS.out.mono ?_; rintro e w2 ⟨rfl, b2⟩; have HB2 := Lib.hid b2; have HO2 := Lib.hid (ownV_later HU.out b2); clear b2)
    go_ret2
    exact ⟨_, rfl, by rw [HR.out, if_pos (by trivial)]; exact HO2.out, HB2.out⟩
  | false =>
    go_enter Try.func49, Try.ntmps49
    go_wp2_with (first | (go_at_call 13; refine HIS.out.mono ?_; rintro e w2 ⟨rfl, b2⟩; have HB2 := Lib.hid b2; clear b2) | (go_at_call 51; refine (HCL.out _ (HV.out.now HB2.out)).mono ?_; rintro e w3 ⟨v3, rfl, o3, b3⟩; obtain ⟨a3, c3, rfl⟩ := ownV_slice o3; have HB3 := Lib.hid (HB2.out.trans (b3.mono HB2.out.size)); have HO3 := Lib.hid (own_wideV o3 (Nat.le_trans hb HB2.out.size)); clear b3 o3))
    go_ret2
    exact ⟨_, rfl, by rw [HR.out, if_neg (by simp)]; exact HO3.out, HB3.out⟩

set_option maxRecDepth 100000 in
set_option maxHeartbeats 3200000 in
/-- AddWord. -/
theorem iadd_any (l : LZ) (x : ByteArray) (f u s : Int) (hl : l.length ≤ 1048576) (v : Value) (w : World) (hv : ReadsListed w.heap.size w v l) :
    Calls Try.prog 16 #[v, .agg #[.string x, .int .i64 f, .int .i64 u, .int .i64 s]] w fun e w' => ∃ v', e = .returned (.tuple #[v', .bool (addW l (x, f, u, s)).2]) ∧ w'.ownsRow w.heap.size 32 4 v' (addW l (x, f, u, s)).1.length (row_Listed (addW l (x, f, u, s)).1) ∧ Below w.heap.size w w' := by
  have HV := Lib.hid hv
  have HPX := Lib.hid (fun v w h => iplace_any l x (by omega) v w h)
  have HCL := Lib.hid (fun v w h => clone_l l hl v w h)
  obtain ⟨-, a0, cap, rfl, -, -⟩ := hv.cells
  have hA := (addI_eq (x := (x, f, u, s)) (plc_place l x)).symm
  have hle := (plc_place l x).le
  obtain ⟨j, hj⟩ : ∃ j, j = plc l x := ⟨_, rfl⟩
  rw [← hj] at HPX hA hle
  obtain ⟨q, hq⟩ : ∃ q, q = atP l x j := ⟨_, rfl⟩
  rw [← hq] at HPX
  have HIN := Lib.hid (fun base vb v w hb ho hvb hv => ins_any l (x, f, u, s) j l.length base vb v w rfl hle hl hb ho hvb hv)
  have hml : (insAt l j (x, f, u, s)).length = l.length + 1 := insAt_length hle
  obtain ⟨m, hm⟩ : ∃ m, m = insAt l j (x, f, u, s) := ⟨_, rfl⟩
  rw [← hm] at HIN hml
  have HLO := Lib.hid (fun base v u w hb hv hu => ilor_big l m (l.length + 1) hml hl (by omega) base v u w hb hv hu)
  obtain ⟨p, hp⟩ : ∃ p, p = islW m := ⟨_, rfl⟩
  rw [← hp] at HLO
  obtain ⟨r, hr⟩ : ∃ r, r = if p = true then m else l := ⟨_, rfl⟩
  have HR : Hid (addW l (x, f, u, s) = (r, p)) := Lib.hid (by rw [hA]; unfold addI; rw [← hm, hr, hp]; cases islW m <;> rfl)
  rw [← hr] at HLO
  have HLE := Lib.hid hle
  clear hr hp hm hml hA hj hq hv hle
  go_enter Try.func16, Try.ntmps16
  go_wp2_with (go_at_call 48; refine Calls.mono (HPX.out _ _ (HV.out.now ((Below.refl _ _).alloc (Nat.le_refl _) _))) ?_; rintro e w1 ⟨rfl, b1⟩; have HBX := Lib.hid (box4 w x f u s 32); have c0 := (b1.cell (p := ⟨w.heap.size, 0, none⟩) (by simp)).trans HBX.out.1; have c1 := (b1.cell (p := ⟨w.heap.size, 1, none⟩) (by simp)).trans HBX.out.2.1; have c2 := (b1.cell (p := ⟨w.heap.size, 2, none⟩) (by simp)).trans HBX.out.2.2.1; have c3 := (b1.cell (p := ⟨w.heap.size, 3, none⟩) (by simp)).trans HBX.out.2.2.2; have HB1 := Lib.hid (((Below.refl w.heap.size w).alloc (Nat.le_refl _) (.cells #[.string x, .int .i64 f, .int .i64 u, .int .i64 s] 32)).trans (b1.mono (by simp))); have HS1 : Hid (w.heap.size < w1.heap.size) := Lib.hid (by have := b1.size; simp at this; omega); clear b1)
  have HKP : Hid (∀ w', Below w1.heap.size w1 w' → w'.cell? ⟨w.heap.size, 0, none⟩ = some (.string x) ∧ w'.cell? ⟨w.heap.size, 1, none⟩ = some (.int .i64 f) ∧ w'.cell? ⟨w.heap.size, 2, none⟩ = some (.int .i64 u) ∧ w'.cell? ⟨w.heap.size, 3, none⟩ = some (.int .i64 s)) := Lib.hid (fun w' h => ⟨(h.cell (p := ⟨w.heap.size, 0, none⟩) HS1.out).trans c0, (h.cell (p := ⟨w.heap.size, 1, none⟩) HS1.out).trans c1, (h.cell (p := ⟨w.heap.size, 2, none⟩) HS1.out).trans c2, (h.cell (p := ⟨w.heap.size, 3, none⟩) HS1.out).trans c3⟩)
  have FA := Lib.hid trivial
  go_region_held3 (fun w' => w'.cell? ⟨w.heap.size, 0, none⟩ = some (.string x) ∧ w'.cell? ⟨w.heap.size, 1, none⟩ = some (.int .i64 f) ∧ w'.cell? ⟨w.heap.size, 2, none⟩ = some (.int .i64 u) ∧ w'.cell? ⟨w.heap.size, 3, none⟩ = some (.int .i64 s)) (first | exact ⟨c0, c1, c2, c3⟩ | exact HKP.out _ HK6.out | exact HKP.out _ HK5.out | exact HKP.out _ (HK3.out.alloc HK3.out.size _) | exact HKP.out _ HK3.out | exact HKP.out _ (by go_grown)) (first | (go_at_call 51; have FG := FA; refine Calls.mono (HCL.out _ _ (HV.out.now HB1.out.drew)) ?_; rintro e w3 ⟨v3, rfl, o3, b3⟩; have b3' : Below w1.heap.size w1 w3 := ((Below.refl w1.heap.size w1).drew).trans b3; have HO3 : Hid (w3.ownsRow w1.heap.size 32 4 v3 l.length (row_Listed l)) := Lib.hid o3; have HN3 : Hid (v3.ownBlock ≠ some w3.heap.size) := Lib.hid (fun e => by have := (o3.lt _ e).2; omega); obtain ⟨a3, cc3, rfl⟩ := ownV_slice o3; have HK3 := Lib.hid b3'; have FB1 := Lib.hid trivial; clear FA FG o3 b3 b3') | (go_at_call 51; have FG := FA; refine Calls.mono (HCL.out _ _ (HV.out.now (HB1.out.alloc HB1.out.size (.cells #[.string x, .int .i64 f, .int .i64 u, .int .i64 s] 32)).drew)) ?_; rintro e w3 ⟨v3, rfl, o3, b3⟩; have b3' : Below w1.heap.size w1 w3 := (((Below.refl w1.heap.size w1).alloc (Nat.le_refl _) (.cells #[.string x, .int .i64 f, .int .i64 u, .int .i64 s] 32)).drew).trans (b3.mono (by simp)); have HV3 : Hid (w3.heap[w1.heap.size]? = some (.cells (cells_Listed (x, f, u, s)).toArray 32 (0, 0))) := Lib.hid ((b3.block w1.heap.size (by simp)).trans (heap_alloc_new w1 (.cells #[.string x, .int .i64 f, .int .i64 u, .int .i64 s] 32))); have HO3 : Hid (w3.ownsRow w1.heap.size 32 4 v3 l.length (row_Listed l)) := Lib.hid (own_wideV o3 (by simp)); have HN3 : Hid (v3.ownBlock ≠ some w1.heap.size) := Lib.hid (fun e => by have := (o3.lt _ e).1; simp at this; omega); obtain ⟨a3, cc3, rfl⟩ := ownV_slice o3; have HK3 := Lib.hid b3'; have FB2 := Lib.hid trivial; clear FA FG o3 b3 b3') | (go_at_call 50; have FG := FB1; refine Calls.mono (HIN.out w1.heap.size w3.heap.size _ _ (le_alloc HK3.out.size _) (HO3.out.alloc _) HN3.out (heap_alloc_new w3 (.cells #[.string x, .int .i64 f, .int .i64 u, .int .i64 s] 32))) ?_; rintro e w5 ⟨v5, rfl, o5, b5⟩; obtain ⟨a5, cc5, rfl⟩ := ownV_slice o5; have HK5 : Hid (Below w1.heap.size w1 w5) := Lib.hid ((HK3.out.alloc HK3.out.size (.cells #[.string x, .int .i64 f, .int .i64 u, .int .i64 s] 32)).trans b5); have HO5 := Lib.hid o5; clear o5 b5 FB1 FG) | (go_at_call 50; have FG := FB2; refine Calls.mono (HIN.out w1.heap.size w1.heap.size _ _ HK3.out.size HO3.out HN3.out HV3.out) ?_; rintro e w5 ⟨v5, rfl, o5, b5⟩; obtain ⟨a5, cc5, rfl⟩ := ownV_slice o5; have HK5 : Hid (Below w1.heap.size w1 w5) := Lib.hid (HK3.out.trans b5); have HO5 := Lib.hid o5; clear o5 b5 FB2 FG) | (go_at_call 49; refine Calls.mono (HLO.out w1.heap.size _ _ _ HK5.out.size (HV.out.now (HB1.out.trans (HK5.out.mono HB1.out.size))) HO5.out) ?_; rintro e w6 ⟨v6, rfl, o6, b6⟩; obtain ⟨a6, cc6, rfl⟩ := ownV_slice o6; have HK6 : Hid (Below w1.heap.size w1 w6) := Lib.hid (HK5.out.trans (b6.mono HK5.out.size)); have HO6 := Lib.hid o6; clear o6 b6))
  all_goals go_wp2
  all_goals go_ret2
  all_goals exact ⟨_, by rw [HR.out]; rfl, by rw [HR.out]; exact own_wideV HO6.out HB1.out.size, HB1.out.trans (HK6.out.mono HB1.out.size)⟩
theorem i_AddWord (v : Value) (l : List (ByteArray × Int × Int × Int)) (x : ByteArray) (f u s : Int) (w : World) (hR : ReadsListed w.heap.size w v l) (_hZ : ∀ z ∈ l, ok_Listed z) (hl : l.length ≤ 1048576) (_hS : ∀ z ∈ l, z.1.size ≤ 1048576) (_hK : ok_Listed (x, f, u, s)) (_hx : x.size ≤ 1048576) :
    Calls Try.prog 16 #[v, .agg #[.string x, .int .i64 f, .int .i64 u, .int .i64 s]] w fun e w' => ∃ L b v', (L = (addW l (x, f, u, s)).1 ∧ b = (addW l (x, f, u, s)).2) ∧ L.length ≤ 16777216 ∧ e = .returned (.tuple #[v', .bool b]) ∧ w'.ownsRow w.heap.size 32 4 v' L.length (row_Listed L) ∧ Below w.heap.size w w' :=
  (iadd_any l x f u s hl v w hR).mono fun _ _ ⟨v', h1, h2, h3⟩ => ⟨_, _, v', ⟨rfl, rfl⟩, Nat.le_trans (addW_len l (x, f, u, s)) (by omega), h1, h2, h3⟩
end Go.Proofs.Ytcpojeiciaghmaa
