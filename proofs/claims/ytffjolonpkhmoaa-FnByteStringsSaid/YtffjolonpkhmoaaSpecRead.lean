/-
  Contract of spec.ReadUvarint at every slice and every offset: the number whose varint stands there, the offset behind it and true, or 0, 0 and false.
-/
import Derived.Test.YtffjolonpkhmoaaAppendUvarint
import Derived.Test.YtffjolonpkhmoaaRead
namespace Go.Proofs.Ytffjolonpkhmoaa
open Go.RowKit

/-- What a reader of varints answers. -/
def SR (l : List Int) (at_ : Int) (w : World) (e : Ending) (w' : World) : Prop := ∃ n next ok, RdAns l at_ n next ok ∧ e = .returned (.tuple #[.int .i64 n, .int .i64 next, .bool ok]) ∧ w = w'
theorem sr_no {l : List Int} {at_ : Int} {w : World} {e : Ending} (h : ∀ n next, ¬ RD l at_ n next) (he : e = .returned (.tuple #[.int .i64 0, .int .i64 0, .bool false])) : SR l at_ w e w := ⟨0, 0, false, Or.inr ⟨rfl, rfl, rfl, h⟩, he, rfl⟩
theorem sr_yes {l : List Int} {at_ n next : Int} {w : World} {e : Ending} (h : RD l at_ n next) (he : e = .returned (.tuple #[.int .i64 n, .int .i64 next, .bool true])) : SR l at_ w e w := ⟨n, next, true, Or.inl ⟨rfl, h⟩, he, rfl⟩

/-- What a reader of varints answers, where it may make memory. -/
def IR (l : List Int) (at_ : Int) (w : World) (e : Ending) (w' : World) : Prop := ∃ n next ok, RdAns l at_ n next ok ∧ e = .returned (.tuple #[.int .i64 n, .int .i64 next, .bool ok]) ∧ Below w.heap.size w w'

set_option maxHeartbeats 1600000 in
theorem sread_any (l : List Int) (hl : l.length ≤ 4194304) (hb : ∀ z ∈ l, 0 ≤ z ∧ z ≤ 255) (at_ : Int) (v : Value) (B : Nat) (w : World) (hv : Reads B w v .u8 l) :
    Calls Try.prog 18 #[v, .int .i64 at_] w (SR l at_ w) := by
  obtain ⟨-, a0, cap, rfl, -, hc⟩ := hv
  have HC := Lib.hid hc
  have HB := Lib.hid hb
  clear hc hb
  go_enter Try.func18, Try.ntmps18
  go_wp2
  go_loop [7, 8] (fun nv kv => ∃ (k : Nat) (p : List Int) (G : Int), k ≤ 6 ∧ kv = .int .i64 k ∧ nv = .int .i64 G ∧ Hid (p.length = k ∧ G = gval p ∧ (k = 0 ∨ 0 ≤ at_) ∧ l.drop at_.toNat = p ++ l.drop (at_.toNat + k) ∧ ∀ y ∈ p, isCont y)) (fun _ kv => 6 - (intOf kv).toNat)
  case atStart => exact ⟨0, [], 0, by decide, rfl, rfl, Lib.hid ⟨rfl, rfl, Or.inl rfl, by simp, by simp⟩⟩
  case round =>
    obtain ⟨k, p, G, hk, rfl, rfl, HP⟩ := hrel
    by_cases hk6 : 6 ≤ k
    · have HN : Hid (∀ n next, ¬ RD l at_ n next) := Lib.hid (by
        obtain ⟨h1, h2, h3, h4, h5⟩ := HP.out
        have h6 : 0 ≤ at_ := by omega
        obtain ⟨q, rfl⟩ : ∃ q : Nat, at_ = (q : Int) := ⟨at_.toNat, by omega⟩
        rw [Int.toNat_natCast] at h4
        exact rd_none h4 h5 (Or.inr (by omega)))
      go_wp2
      exact bodyPost_ret (v := .tuple #[.int .i64 0, .int .i64 0, .bool false]) (by simp [results, Try.results18, go_sem]) rfl (sr_no HN.out rfl)
    · by_cases ha : at_ < 0
      · have HN : Hid (∀ n next, ¬ RD l at_ n next) := Lib.hid (fun n next h => by have := h.1; omega)
        go_wp2
        exact bodyPost_ret (v := .tuple #[.int .i64 0, .int .i64 0, .bool false]) (by simp [results, Try.results18, go_sem]) rfl (sr_no HN.out rfl)
      · obtain ⟨q, rfl⟩ : ∃ q : Nat, at_ = (q : Int) := ⟨at_.toNat, by omega⟩
        by_cases hr : (q : Int) < (l.length : Int) - k
        · obtain ⟨b, off, rfl, hbB, hcell⟩ := HC.out (q + k) (by omega)
          obtain ⟨z, hz⟩ : ∃ z, z = l.getD (q + k) 0 := ⟨_, rfl⟩
          rw [← hz] at hcell
          have hzl : l.drop (q + k) = z :: l.drop (q + k + 1) := by
            rw [List.drop_eq_getElem_cons (show q + k < l.length by omega), hz]
            simp [List.getD, show q + k < l.length by omega]
          have hz0 := HB.out z (by have := List.mem_of_mem_drop (show z ∈ l.drop (q + k) by rw [hzl]; exact List.mem_cons_self ..); exact this)
          obtain ⟨hz1, hz2⟩ := hz0
          obtain ⟨p1, p2, p3, p4, p5⟩ := HP.out
          rw [Int.toNat_natCast, hzl] at p4
          have hG0 : 0 ≤ G := by rw [p2]; exact gval_nonneg p
          have hG1 : G < 128 ^ k := by rw [p2, ← p1]; exact gval_lt p
          obtain ⟨G', hG'⟩ : ∃ G', G' = gval (p ++ [z]) := ⟨_, rfl⟩
          have hstep : bits .or .i64 G (RowKit.wrap64 (bits .and .i64 z 127 * 2 ^ (7 * k))) = G' := by
            rw [read_step z G k (by omega) hG0 hG1, hG', gval_snoc, p1, p2]
          have HQ : Hid (p.length = k ∧ l.drop q = p ++ z :: l.drop (q + k + 1) ∧ (∀ y ∈ p, isCont y) ∧ G' = gval (p ++ [z])) := Lib.hid ⟨p1, p4, p5, hG'⟩
          clear p1 p2 p3 p4 p5 hz hzl hG0 hG1 hG'
          by_cases hzc : 128 ≤ z
          · have HP2 : Hid (p.length + 1 = k + 1 ∧ G' = gval (p ++ [z]) ∧ l.drop q = (p ++ [z]) ++ l.drop (q + (k + 1)) ∧ ∀ y ∈ p ++ [z], isCont y) := Lib.hid (by
              obtain ⟨a1, a2, a3, a4⟩ := HQ.out
              refine ⟨by omega, a4, by rw [a2]; simp [Nat.add_assoc], fun y hy => ?_⟩
              rcases List.mem_append.1 hy with h | h
              · exact a3 y h
              · simp only [List.mem_singleton] at h; subst h; exact ⟨hzc, hz2⟩)
            go_wp2
            go_round
            case rel => exact ⟨k + 1, p ++ [z], G', by omega, by go_num, rfl, Lib.hid ⟨by have := HP2.out.1; simp; omega, HP2.out.2.1, Or.inr (by omega), by rw [Int.toNat_natCast]; exact HP2.out.2.2.1, HP2.out.2.2.2⟩⟩
            case measure => simp [intOf]; omega
          · have hzn : z ≤ 127 := by omega
            clear hzc
            by_cases hzz : z = 0 ∧ 0 < k
            · have HN : Hid (∀ n next, ¬ RD l (q : Int) n next) := Lib.hid (fun n next h => by
                obtain ⟨a1, a2, a3, a4⟩ := HQ.out
                rcases (rd_of a2 a3 hzn h).2.2 with h1 | h1
                · rw [h1] at a1; simp at a1; omega
                · exact h1 hzz.1)
              have hzb : (z == 0) = true := by simpa using hzz.1
              have hkb : decide (0 < k) = true := decide_eq_true hzz.2
              clear hzz
              go_wp2
              exact bodyPost_ret (v := .tuple #[.int .i64 0, .int .i64 0, .bool false]) (by simp [results, Try.results18, go_sem]) rfl (sr_no HN.out rfl)
            · have HZP : Hid (p = [] ∨ z ≠ 0) := Lib.hid (by
                by_cases h : z = 0
                · left
                  have := HQ.out.1
                  exact List.length_eq_zero_iff.1 (by omega)
                · exact Or.inr h)
              by_cases hM : 1000000000000 < G'
              · have HN : Hid (∀ n next, ¬ RD l (q : Int) n next) := Lib.hid (fun n next h => by
                  obtain ⟨a1, a2, a3, a4⟩ := HQ.out
                  have h1 := (rd_of a2 a3 hzn h).1
                  have h2 := h.2.2.1
                  omega)
                by_cases hz3 : z = 0
                · have hzb : (z == 0) = true := by simpa using hz3
                  have hkb : decide (0 < k) = false := decide_eq_false (fun h => hzz ⟨hz3, h⟩)
                  clear hzz hz3
                  go_wp2
                  exact bodyPost_ret (v := .tuple #[.int .i64 0, .int .i64 0, .bool false]) (by simp [results, Try.results18, go_sem]) rfl (sr_no HN.out rfl)
                · have hzb : (z == 0) = false := by simpa using hz3
                  clear hzz hz3
                  go_wp2
                  exact bodyPost_ret (v := .tuple #[.int .i64 0, .int .i64 0, .bool false]) (by simp [results, Try.results18, go_sem]) rfl (sr_no HN.out rfl)
              · have HN : Hid (RD l (q : Int) G' ((q : Int) + k + 1)) := Lib.hid (by
                  obtain ⟨a1, a2, a3, a4⟩ := HQ.out
                  have := rd_yes a2 a3 hz1 hzn HZP.out (by omega)
                  rw [← a4, a1] at this
                  exact this)
                by_cases hz3 : z = 0
                · have hzb : (z == 0) = true := by simpa using hz3
                  have hkb : decide (0 < k) = false := decide_eq_false (fun h => hzz ⟨hz3, h⟩)
                  clear hzz hz3
                  go_wp2
                  exact bodyPost_ret (v := .tuple #[.int .i64 G', .int .i64 ((q : Int) + k + 1), .bool true]) (by simp [results, Try.results18, go_sem]) rfl (sr_yes HN.out rfl)
                · have hzb : (z == 0) = false := by simpa using hz3
                  clear hzz hz3
                  go_wp2
                  exact bodyPost_ret (v := .tuple #[.int .i64 G', .int .i64 ((q : Int) + k + 1), .bool true]) (by simp [results, Try.results18, go_sem]) rfl (sr_yes HN.out rfl)
        · have HN : Hid (∀ n next, ¬ RD l (q : Int) n next) := Lib.hid (by
            obtain ⟨h1, h2, h3, h4, h5⟩ := HP.out
            rw [Int.toNat_natCast] at h4
            exact rd_none h4 h5 (Or.inl (List.drop_eq_nil_of_le (by omega))))
          go_wp2
          exact bodyPost_ret (v := .tuple #[.int .i64 0, .int .i64 0, .bool false]) (by simp [results, Try.results18, go_sem]) rfl (sr_no HN.out rfl)
end Go.Proofs.Ytffjolonpkhmoaa
