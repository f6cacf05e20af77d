/-
  Contracts of spec.AppendBytes and spec.ReadBytes.
-/
import Derived.Test.YtffjolonpkhmoaaSpecRead
import Derived.Deep.Cut
namespace Go.Proofs.Ytffjolonpkhmoaa
open Go.RowKit

theorem now_src {B : Nat} {W : World} {a0 : Option Addr} {kd : IntKind} {l : List Int} (h : ∀ j, j < l.length → ∃ b off, a0 = some ⟨b, off, none⟩ ∧ b < B ∧ W.cell? ⟨b, off + j, none⟩ = some (.int kd (l.getD j 0))) :
    ∀ j, j < l.length → ∃ b off, a0 = some ⟨b, off, none⟩ ∧ W.cell? ⟨b, off + j, none⟩ = some (.int kd (l.getD j 0)) := fun j hj => by
  obtain ⟨b, off, e1, _, e3⟩ := h j hj
  exact ⟨b, off, e1, e3⟩

set_option maxHeartbeats 400000 in
theorem sab_any (l s : List Int) (hl : l.length ≤ 2097152) (hs : s.length ≤ 2097152) (v u : Value) (w : World) (hv : Reads w.heap.size w v .u8 l) (hu : Reads w.heap.size w u .u8 s) :
    Calls Try.prog 31 #[v, u] w fun e w' => ∃ v', e = .returned v' ∧ w'.ownsRow w.heap.size 5 1 v' (l ++ uv s.length ++ s).length ((l ++ uv s.length ++ s).map (Value.int .u8)) ∧ Below w.heap.size w w' := by
  obtain ⟨i0, hi, hz0, hz1, hz2⟩ := info_parts infoU8
  have HU := Lib.hid hu
  obtain ⟨-, a0, cap, rfl, hcap, -⟩ := hu
  have HV := Lib.hid hv
  have HNIL := Lib.hid hcap
  have hul := uv_length s.length
  clear hv hcap
  go_enter Try.func31, Try.ntmps31
  go_wp2_with (first | (go_at_call 26; refine (sapp_any l (by omega) _ v _ HV.out).mono ?_; rintro e w1 ⟨v1, rfl, hown, b1⟩; have HU1 := Lib.hid (HU.out.now b1)) | (at_builtin; obtain ⟨-, a1, c1, e1, -, hsrc⟩ := HU1.out; cases e1; refine append_reads _ rfl _ _ 22 rfl w.heap.size 5 i0 (.int .u8 0) 1 Try.underlying22 hi hz0 hz1 hz2 rfl _ _ _ rfl hown a0 s.length cap .u8 s rfl rfl HNIL.out.1 (now_src hsrc) (by rw [List.length_append]; omega) (by rw [List.length_append]; omega) b1.size ?_; intro v2 w2 hown2 hgrow2))
  go_ret
  exact ⟨_, rfl, by simpa [Nat.add_assoc] using hown2, below_own b1 hgrow2 hown (Nat.le_refl _) b1.size⟩

/-- What a reader of byte strings leaves. -/
def RBOut (l : List Int) (at_ most : Int) (w : World) (e : Ending) (w' : World) : Prop :=
  ∃ L nx ok v', RB l at_ most L nx ok ∧ L.length ≤ 2097152 ∧ e = .returned (.tuple #[v', .int .i64 nx, .bool ok]) ∧ w'.ownsRow w.heap.size 5 1 v' L.length (L.map (Value.int .u8)) ∧ Below w.heap.size w w'
theorem rb_no {l : List Int} {at_ most : Int} {w : World} {e : Ending} (h : RB l at_ most [] 0 false) (he : e = .returned (.tuple #[.slice (some ⟨w.heap.size, 0, none⟩) 0 0, .int .i64 0, .bool false])) : RBOut l at_ most w e (w.alloc (.cells #[] 5)) :=
  ⟨[], 0, false, _, h, by simp, he, own_empty w _, (Below.refl _ _).alloc (Nat.le_refl _) _⟩

set_option maxHeartbeats 800000 in
theorem srb_any (l : List Int) (hl : l.length ≤ 2097152) (hb : ∀ z ∈ l, 0 ≤ z ∧ z ≤ 255) (at_ most : Int) (v : Value) (w : World) (hv : Reads w.heap.size w v .u8 l) :
    Calls Try.prog 32 #[v, .int .i64 at_, .int .i64 most] w (RBOut l at_ most w) := by
  obtain ⟨i0, hi, hz0, hz1, hz2⟩ := info_parts infoU8
  have HV := Lib.hid hv
  have HB := Lib.hid hb
  obtain ⟨-, a0, cap, rfl, hcap, hc⟩ := hv
  have HC := Lib.hid hc
  have HNIL := Lib.hid hcap
  clear hb hc hcap
  go_enter Try.func32, Try.ntmps32
  go_upto_region 2 with (go_at_call 18; refine (sread_any l (by omega) HB.out at_ _ _ _ HV.out).mono ?_; rintro e w1 ⟨n, next, ok, HA, rfl, rfl⟩)
  rcases HA with ⟨rfl, hrd⟩ | ⟨rfl, rfl, rfl, hno⟩
  · obtain ⟨hn0, hn1, hm0, hm1⟩ := rd_next hrd
    obtain ⟨q, rfl⟩ : ∃ q : Nat, next = (q : Int) := ⟨next.toNat, by omega⟩
    obtain ⟨m, rfl⟩ : ∃ m : Nat, n = (m : Int) := ⟨n.toNat, by omega⟩
    have hcap1 := HNIL.out.2.1
    have hcap2 := HNIL.out.2.2
    by_cases h1 : (m : Int) ≤ most
    · by_cases h2 : (m : Int) ≤ l.length - q
      · have HY : Hid (RB l at_ most ((l.drop q).take m) (q + m) true) := Lib.hid (Or.inl ⟨rfl, _, _, hrd, h1, h2, by simp, rfl⟩)
        have hpos : 0 < l.length := by
          rcases Nat.eq_zero_or_pos l.length with h0 | h0
          · obtain ⟨a0, a1, a2, a3, t, a4⟩ := hrd
            rw [List.length_eq_zero_iff.1 h0] at a4
            obtain ⟨p, x, e1, _⟩ := enc_shape (m : Int).toNat
            rw [e1] at a4
            simp at a4
          · exact h0
        obtain ⟨b, off, rfl, _, _⟩ := HC.out 0 hpos
        have HS : Hid (∀ j, j < ((l.drop q).take m).length → w.cell? ⟨b, off + q + j, none⟩ = some (.int .u8 (((l.drop q).take m).getD j 0))) := Lib.hid (fun j hj => by
          have hj' : j < m ∧ q + j < l.length := by simp at hj; omega
          obtain ⟨b', off', e1, _, e3⟩ := HC.out (q + j) hj'.2
          cases e1
          rw [Nat.add_assoc, e3]
          simp [List.getD, hj'.1])
        clear hrd
        obtain ⟨L, hL⟩ : ∃ L, L = (l.drop q).take m := ⟨_, rfl⟩
        have hLm : m = L.length := by rw [hL]; simp; omega
        rw [← hL] at HY HS
        clear hL
        subst hLm
        by_cases hqc : q = cap
        · obtain rfl : L = [] := List.length_eq_zero_iff.1 (by omega)
          clear HS hcap1 hcap2 h2
          subst hqc
          go_wp2_with (at_builtin; refine append_reads _ rfl _ _ 22 rfl w.heap.size 5 i0 (.int .u8 0) 1 Try.underlying22 hi hz0 hz1 hz2 rfl _ 0 [] rfl (own_empty w _) (some ⟨b, off, none⟩) 0 0 .u8 [] rfl rfl (fun e => by cases e) (fun j hj => by simp at hj) (by omega) (by omega) (by simp) ?_; intro v1 w1 hown hgrow)
          have HO : Hid (w1.ownsRow w.heap.size 5 1 v1 ([] : List Int).length (([] : List Int).map (Value.int .u8))) := Lib.hid hown
          have HBL := Lib.hid (below_own ((Below.refl w.heap.size w).alloc (Nat.le_refl _) _) hgrow (own_empty w _) (Nat.le_refl _) (by simp))
          clear hown hgrow
          go_wp2
          exact bodyPost_ret (v := .tuple #[v1, .int .i64 q, .bool true]) (by simp [results, Try.results32, go_sem]) rfl ⟨[], _, true, v1, HY.out, by simp, by simp, HO.out, HBL.out⟩
        · go_wp2_with (at_builtin; go_must (refine append_reads _ rfl _ _ 22 rfl w.heap.size 5 i0 (.int .u8 0) 1 Try.underlying22 hi hz0 hz1 hz2 rfl _ 0 [] rfl (own_empty w _) (some ⟨b, off + q, none⟩) (q + L.length - q) (cap - q) .u8 L rfl (by omega) (fun e => by cases e) (fun j hj => ⟨b, off + q, rfl, (World.grownBy_alloc w _ none).cell (HS.out j hj) (by simp)⟩) (by omega) (by omega) (by simp) ?_); intro v1 w1 hown hgrow)
          have HO : Hid (w1.ownsRow w.heap.size 5 1 v1 L.length (L.map (Value.int .u8))) := Lib.hid (by have h9 := hown; rw [show 0 + (q + L.length - q) = L.length by omega] at h9; simpa using h9)
          have HBL := Lib.hid (below_own ((Below.refl w.heap.size w).alloc (Nat.le_refl _) _) hgrow (own_empty w _) (Nat.le_refl _) (by simp))
          clear hown hgrow
          go_wp2
          exact bodyPost_ret (v := .tuple #[v1, .int .i64 ((q : Int) + L.length), .bool true]) (by simp [results, Try.results32, go_sem]) rfl ⟨L, _, true, v1, HY.out, by omega, rfl, HO.out, HBL.out⟩
      · have HN : Hid (RB l at_ most [] 0 false) := Lib.hid (Or.inr ⟨rfl, rfl, rfl, fun n next h hh => by obtain ⟨rfl, rfl⟩ := rd_unique hrd h; exact h2 hh.2⟩)
        clear hrd
        go_wp2
        exact bodyPost_ret (v := .tuple #[.slice (some ⟨w.heap.size, 0, none⟩) 0 0, .int .i64 0, .bool false]) (by simp [results, Try.results32, go_sem]) rfl (rb_no HN.out rfl)
    · have HN : Hid (RB l at_ most [] 0 false) := Lib.hid (Or.inr ⟨rfl, rfl, rfl, fun n next h hh => by obtain ⟨rfl, rfl⟩ := rd_unique hrd h; exact h1 hh.1⟩)
      clear hrd
      go_wp2
      exact bodyPost_ret (v := .tuple #[.slice (some ⟨w.heap.size, 0, none⟩) 0 0, .int .i64 0, .bool false]) (by simp [results, Try.results32, go_sem]) rfl (rb_no HN.out rfl)
  · have HN : Hid (RB l at_ most [] 0 false) := Lib.hid (Or.inr ⟨rfl, rfl, rfl, fun n next h => absurd h (hno n next)⟩)
    clear hno
    go_wp2
    exact bodyPost_ret (v := .tuple #[.slice (some ⟨w.heap.size, 0, none⟩) 0 0, .int .i64 0, .bool false]) (by simp [results, Try.results32, go_sem]) rfl (rb_no HN.out rfl)
end Go.Proofs.Ytffjolonpkhmoaa
