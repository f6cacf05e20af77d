/-
  The program's contracts of chapter 7, second part: the board of a grid, IsGrid.
-/
import Derived.Test.YtgpplfhbgkcjhaaDoorGridImplA
namespace Go.Proofs.YtgpplfhbgkcjhaaDoor
open Go.RowKit

/-- '[]byte(s)' in whatever world: the answer and the world behind it as functions of the world. -/
theorem conv_fun (s : ByteArray) (h : s.size ≤ 1048576) : ∃ F : World → Nat × World, ∀ w, (convert 9 22 (.string s)).run Tryd.prog w = .ok (.slice (some ⟨w.heap.size, 0, none⟩) s.size (F w).1) (F w).2 ∧ s.size ≤ (F w).1 ∧ (F w).1 ≤ 9223372036854775807 ∧ Below w.heap.size w (F w).2 ∧ w.heap.size + 1 = (F w).2.heap.size ∧ ∀ k (hk : k < s.size), (F w).2.cell? ⟨w.heap.size, k, none⟩ = some (.int .u8 s[k].toNat) := by
  refine ⟨fun w => ((conv_str s w h).choose, (conv_str s w h).choose_spec.choose), fun w => ?_⟩
  exact (conv_str s w h).choose_spec.choose_spec

/-- What boardOf answers. -/
def brd (g : Int × Int × ByteArray) : Int × Int × Nat := if isG g = true then (g.1, g.2.1, wT g.2.2 g.2.2.size) else (0, 0, 0)
def brdV (b : Int × Int × Nat) : Value := .agg #[.int .i64 b.1, .int .i64 b.2.1, .int .u64 (b.2.2 : Int)]
theorem markV_white {b : UInt8} (h : b = 46) : markV b = .iface 78 (.agg #[]) := by unfold markV; rw [if_pos h]; rfl
theorem markV_black {b : UInt8} (h : b = 35) : markV b = .iface 80 (.agg #[]) := by subst h; rfl
theorem is_WW (v : Value) (w : World) : (Instr.typeAssert (.iface 78 v) 75 78 true).run Tryd.prog w = .ok (.tuple #[v, .bool true]) w := by kernel_rfl
theorem is_WB (v : Value) (w : World) : (Instr.typeAssert (.iface 80 v) 75 78 true).run Tryd.prog w = .ok (.tuple #[.agg #[], .bool false]) w := by kernel_rfl
theorem is_WR (v : Value) (w : World) : (Instr.typeAssert (.iface 115 v) 75 78 true).run Tryd.prog w = .ok (.tuple #[.agg #[], .bool false]) w := by kernel_rfl
theorem is_WN (w : World) : (Instr.typeAssert .nilIface 75 78 true).run Tryd.prog w = .ok (.tuple #[.agg #[], .bool false]) w := by kernel_rfl
theorem is_BB (v : Value) (w : World) : (Instr.typeAssert (.iface 80 v) 75 80 true).run Tryd.prog w = .ok (.tuple #[v, .bool true]) w := by kernel_rfl
theorem is_BW (v : Value) (w : World) : (Instr.typeAssert (.iface 78 v) 75 80 true).run Tryd.prog w = .ok (.tuple #[.agg #[], .bool false]) w := by kernel_rfl
theorem is_BR (v : Value) (w : World) : (Instr.typeAssert (.iface 115 v) 75 80 true).run Tryd.prog w = .ok (.tuple #[.agg #[], .bool false]) w := by kernel_rfl
theorem is_BN (w : World) : (Instr.typeAssert .nilIface 75 80 true).run Tryd.prog w = .ok (.tuple #[.agg #[], .bool false]) w := by kernel_rfl
theorem is_RR (v : Value) (w : World) : (Instr.typeAssert (.iface 115 v) 75 115 true).run Tryd.prog w = .ok (.tuple #[v, .bool true]) w := by kernel_rfl
theorem is_RW (v : Value) (w : World) : (Instr.typeAssert (.iface 78 v) 75 115 true).run Tryd.prog w = .ok (.tuple #[.agg #[], .bool false]) w := by kernel_rfl
theorem is_RB (v : Value) (w : World) : (Instr.typeAssert (.iface 80 v) 75 115 true).run Tryd.prog w = .ok (.tuple #[.agg #[], .bool false]) w := by kernel_rfl
theorem is_RN (w : World) : (Instr.typeAssert .nilIface 75 115 true).run Tryd.prog w = .ok (.tuple #[.agg #[], .bool false]) w := by kernel_rfl
/-- The mark of a byte that is no cell. -/
theorem markV_other {b : UInt8} (h : ¬ (b = 35 ∨ b = 46)) : markV b = mR ∨ markV b = .nilIface := by
  unfold markV
  rw [if_neg (fun e => h (Or.inr e)), if_neg (fun e => h (Or.inl e))]
  split
  · exact Or.inl rfl
  · exact Or.inr rfl

theorem keep_bytes {w w' : World} {B : Nat} {s : ByteArray} (h : ∀ j (hj : j < s.size), w.cell? ⟨B, j, none⟩ = some (.int .u8 s[j].toNat)) (hb : Below w.heap.size w w') : ∀ j (hj : j < s.size), w'.cell? ⟨B, j, none⟩ = some (.int .u8 s[j].toNat) :=
  fun j hj => (hb.cell (p := ⟨B, j, none⟩) (World.block_lt_of_cell? _ _ (h j hj))).trans (h j hj)
theorem cell_set_other (w : World) (p : Addr) (v : Value) (q : Addr) (h : q.block ≠ p.block) : (w.setCell p v).cell? q = w.cell? q := by
  unfold World.cell?
  rw [Below.heap_setCell w p v q.block h]
set_option maxHeartbeats 1600000 in
theorem ibo_any (r c : Int) (s : ByteArray) (hs : s.size ≤ 4194304) (w : World) :
    Calls Tryd.prog 31 #[.agg #[.int .i64 r, .int .i64 c, .string s]] w fun e w' => e = .returned (.tuple #[brdV (brd (r, c, s)), .bool (isG (r, c, s))]) ∧ Below w.heap.size w w' := by
  have HBX := Lib.hid (box33 (Below.refl _ ((w.alloc (.cells #[.int .i64 r, .int .i64 c, .string s] 25)).alloc (.cells #[.int .i64 0, .int .i64 0, .int .u64 0] 50))))
  have HNO : Hid (isG (r, c, s) = false → brd (r, c, s) = (0, 0, 0)) := Lib.hid (fun h => by unfold brd; rw [h]; rfl)
  go_enter Tryd.func31, Tryd.ntmps31
  go_wp2_with fail
  obtain ⟨W1, hW1⟩ : ∃ W1, W1 = (w.alloc (.cells #[.int .i64 r, .int .i64 c, .string s] 25)).alloc (.cells #[.int .i64 0, .int .i64 0, .int .u64 0] 50) := ⟨_, rfl⟩
  rw [← hW1] at HBX ⊢
  clear hW1
  have HA := Lib.hid HBX.out.1
  have HR := Lib.hid HBX.out.2.1
  have HB := Lib.hid HBX.out.2.2
  clear HBX
  obtain ⟨a0, a1, a2, fa0, fa1, fa2⟩ := cells3 HA.out
  obtain ⟨z0, z1, z2, y0, y1, y2⟩ := cells3 HR.out
  by_cases hr : 2 ≤ r ∧ r ≤ 6
  · by_cases hc : 2 ≤ c ∧ c ≤ 6
    · obtain ⟨hr1, hr2⟩ := hr
      obtain ⟨hc1, hc2⟩ := hc
      obtain ⟨hp1, hp2⟩ := prod_in hr1 hr2 hc1 hc2
      by_cases hz : (s.size : Int) = r * c
      · have hn : ((s.size : Int) != r * c) = false := by simp; omega
        have HZ := Lib.hid hz
        have hs36 : s.size ≤ 36 := by omega
        clear hz
        have FL := Lib.hid trivial
        obtain ⟨F, hF⟩ := conv_fun s (by omega)
        have hconv := fun w => (hF w).1
        have HFH := Lib.hid hF
        clear hF
        have hA2 := ((Below.refl W1.heap.size W1).alloc (Nat.le_refl _) (.cells #[.int .i64 r, .int .i64 c, .int .u64 0] 50)).block w.heap.size (size_of_heap HA.out)
        obtain ⟨x0, x1, x2, fx0, fx1, fx2⟩ := cells3 (hA2.trans HA.out)
        clear hA2
        go_wp2_with (first | (go_at_call 51; have FG := FL; refine (inr_yes r _ _ (by omega) (by omega) _).mono ?_; rintro e w1 ⟨rfl, rfl⟩; clear FL FG) | (go_at_call 51; refine (inr_yes c _ _ (by omega) (by omega) _).mono ?_; rintro e w1 ⟨rfl, rfl⟩))
        have hq := HFH.out (W1.alloc (.cells #[.int .i64 r, .int .i64 c, .int .u64 0] 50))
        obtain ⟨W4, hW4⟩ : ∃ W4, W4 = (F (W1.alloc (.cells #[.int .i64 r, .int .i64 c, .int .u64 0] 50))).2 := ⟨_, rfl⟩
        rw [← hW4] at hq ⊢
        clear hW4 hconv
        obtain ⟨B, hBe⟩ : ∃ B, B = W1.heap.size := ⟨_, rfl⟩
        obtain ⟨-, -, -, hq4, hq5, hq6⟩ := hq
        rw [World.size_alloc, ← hBe] at hq4 hq6
        have HC := Lib.hid hq6
        have HR4 := Lib.hid ((hq4.block (w.heap.size + 1) (by have := size_of_heap HR.out; omega)).trans ((((Below.refl W1.heap.size W1).alloc (Nat.le_refl _) (.cells #[.int .i64 r, .int .i64 c, .int .u64 0] 50)).block (w.heap.size + 1) (size_of_heap HR.out)).trans HR.out))
        have hnb := new_block W1 (.cells #[.int .i64 r, .int .i64 c, .int .u64 0] 50)
        rw [← hBe] at hnb
        have HP4 := Lib.hid ((hq4.block B (by omega)).trans hnb)
        have HB4 := Lib.hid ((HB.out.alloc HB.out.size (.cells #[.int .i64 r, .int .i64 c, .int .u64 0] 50)).trans (hq4.mono (by have := HB.out.size; omega)))
        have hwB : w.heap.size + 1 < B := by have := size_of_heap HR.out; omega
        rw [← hBe]
        clear hBe hq4 hq5 hq6 HR HB x0 x1 x2 fx0 fx1 fx2 a0 a1 a2 fa0 fa1 fa2 z0 z1 z2 y0 y1 y2 HA
        go_loopw [39] (fun i wr => ∃ k : Nat, k ≤ s.size ∧ i = .int .i64 k ∧ Hid (∀ b ∈ s.data.toList.take k, b = 35 ∨ b = 46) ∧ Hid (wr.heap[w.heap.size + 1]? = some (.cells #[.int .i64 0, .int .i64 0, .int .u64 0] 50)) ∧ Hid (wr.heap[B]? = some (.cells #[.int .i64 r, .int .i64 c, .int .u64 ((wT s k : Nat) : Int)] 50)) ∧ Hid (∀ j (hj : j < s.size), wr.cell? ⟨B + 1, j, none⟩ = some (.int .u8 s[j].toNat)) ∧ Hid (Below w.heap.size w wr)) (fun i _ => s.size - (intOf i).toNat)
        case atStart => exact ⟨0, Nat.zero_le _, rfl, Lib.hid (by simp), HR4, HP4, HC, HB4⟩
        case round =>
          obtain ⟨k, hk, rfl, HL, HR, HP, HC, HB⟩ := hrel
          by_cases hlt : k < s.size
          · have hc0 := HC.out k hlt
            have h255 : s[k].toNat ≤ 255 := by have := s[k].toNat_lt; omega
            have HGD := Lib.hid (getD_byte s k hlt)
            obtain ⟨T, hT⟩ : ∃ T, T = wT s k := ⟨_, rfl⟩
            have hTl : T < 18446744073709551616 := by rw [hT]; exact Nat.lt_trans (wT_lt s k (by omega)) (by decide)
            by_cases hb : s[k] = 35 ∨ s[k] = 46
            · have HL2 : Hid (∀ b ∈ s.data.toList.take (k + 1), b = 35 ∨ b = 46) := Lib.hid (fun b hb2 => by
                rw [take_snoc s k hlt] at hb2
                rcases List.mem_append.1 hb2 with h | h
                · exact HL.out b h
                · simp only [List.mem_singleton] at h; subst h; exact hb)
              rcases hb with h35 | h46
              · have HN : Hid (wT s (k + 1) = T) := Lib.hid (by rw [hT]; exact wT_no s k (by rw [HGD.out, h35]; decide))
                have HMK := Lib.hid (fun w => imko_any s[k] w)
                rw [markV_black h35] at HMK
                rw [← hT] at HP
                have ia := is_WB
                have ib := is_BB
                clear h35 hT
                go_wp2_with (go_at_call 52; refine (HMK.out _).mono ?_; rintro e w2 ⟨rfl, b2⟩; have HP2 := Lib.hid ((b2.block B (size_of_heap HP.out)).trans HP.out); have HR2 := Lib.hid ((b2.block (w.heap.size + 1) (size_of_heap HR.out)).trans HR.out); have HC2 := Lib.hid (keep_bytes HC.out b2); have HB2 := Lib.hid (HB.out.trans (b2.mono HB.out.size)); obtain ⟨p0, p1, p2, q0, q1, q2⟩ := cells3 HP2.out; obtain ⟨z0, z1, z2, y0, y1, y2⟩ := cells3 HR2.out; clear b2)
                go_roundw
                case rel => exact ⟨k + 1, by omega, by go_num, HL2, HR2, by rw [HN.out]; exact HP2, HC2, HB2⟩
                case measure => simp [intOf]; omega
              · have HN : Hid (wT s (k + 1) = T ||| 2 ^ k) := Lib.hid (by rw [hT]; exact wT_yes s k (by rw [HGD.out, h46]))
                have HMK := Lib.hid (fun w => imko_any s[k] w)
                rw [markV_white h46] at HMK
                rw [← hT] at HP
                have ia := is_WW
                clear h46 hT
                go_wp2_with (first | (go_at_call 52; refine (HMK.out _).mono ?_; rintro e w2 ⟨rfl, b2⟩; have HP2 := Lib.hid ((b2.block B (size_of_heap HP.out)).trans HP.out); have HR2 := Lib.hid ((b2.block (w.heap.size + 1) (size_of_heap HR.out)).trans HR.out); have HC2 := Lib.hid (keep_bytes HC.out b2); have HB2 := Lib.hid (HB.out.trans (b2.mono HB.out.size)); obtain ⟨p0, p1, p2, q0, q1, q2⟩ := cells3 HP2.out; obtain ⟨z0, z1, z2, y0, y1, y2⟩ := cells3 HR2.out; clear b2) | (go_at_call 53; refine (withJ_any T k hTl (by omega) _).mono ?_; rintro e w3 ⟨rfl, rfl⟩; rw [← HN.out]))
                go_roundw
                case rel => exact ⟨k + 1, by omega, by go_num, HL2, Lib.hid ((Below.heap_setCell _ _ _ _ (by simp; omega)).trans HR2.out), Lib.hid (by have h9 := Joins.block_setCell (i := 2) HP2.out (.int .u64 ((wT s (k + 1) : Nat) : Int)); exact h9), Lib.hid (fun j hj => (cell_set_other _ _ _ _ (by show B + 1 ≠ B; omega)).trans (HC2.out j hj)), Lib.hid (HB2.out.setCell (p := ⟨B, 2, none⟩) (by simp; omega) _)⟩
                case measure => simp [intOf]; omega
            · have HF := Lib.hid (isG_not (r := r) (c := c) hlt hb)
              have HN2 := Lib.hid (HNO.out HF.out)
              have HMK := Lib.hid (fun w => imko_any s[k] w)
              rcases markV_other hb with h9 | h9
              · rw [h9] at HMK
                unfold mR at HMK
                have ia := is_WR
                have ib := is_BR
                clear h9 hb
                go_wp2_with (go_at_call 52; refine (HMK.out _).mono ?_; rintro e w2 ⟨rfl, b2⟩; have HP2 := Lib.hid ((b2.block B (size_of_heap HP.out)).trans HP.out); have HR2 := Lib.hid ((b2.block (w.heap.size + 1) (size_of_heap HR.out)).trans HR.out); have HC2 := Lib.hid (keep_bytes HC.out b2); have HB2 := Lib.hid (HB.out.trans (b2.mono HB.out.size)); obtain ⟨p0, p1, p2, q0, q1, q2⟩ := cells3 HP2.out; obtain ⟨z0, z1, z2, y0, y1, y2⟩ := cells3 HR2.out; clear b2)
                exact bodyPost_ret (v := .tuple #[.agg #[.int .i64 0, .int .i64 0, .int .u64 0], .bool false]) (by simp [results, Tryd.results31, go_sem, z0, z1, z2]) rfl ⟨by rw [HF.out, HN2.out]; rfl, (((HB2.out.setCell (p := ⟨w.heap.size + 1, 0, none⟩) (by simp) _).setCell (p := ⟨w.heap.size + 1, 1, none⟩) (by simp) _).setCell (p := ⟨w.heap.size + 1, 2, none⟩) (by simp) _)⟩
              · rw [h9] at HMK
                have ia := is_WN
                have ib := is_BN
                clear h9 hb
                go_wp2_with (go_at_call 52; refine (HMK.out _).mono ?_; rintro e w2 ⟨rfl, b2⟩; have HP2 := Lib.hid ((b2.block B (size_of_heap HP.out)).trans HP.out); have HR2 := Lib.hid ((b2.block (w.heap.size + 1) (size_of_heap HR.out)).trans HR.out); have HC2 := Lib.hid (keep_bytes HC.out b2); have HB2 := Lib.hid (HB.out.trans (b2.mono HB.out.size)); obtain ⟨p0, p1, p2, q0, q1, q2⟩ := cells3 HP2.out; obtain ⟨z0, z1, z2, y0, y1, y2⟩ := cells3 HR2.out; clear b2)
                exact bodyPost_ret (v := .tuple #[.agg #[.int .i64 0, .int .i64 0, .int .u64 0], .bool false]) (by simp [results, Tryd.results31, go_sem, z0, z1, z2]) rfl ⟨by rw [HF.out, HN2.out]; rfl, (((HB2.out.setCell (p := ⟨w.heap.size + 1, 0, none⟩) (by simp) _).setCell (p := ⟨w.heap.size + 1, 1, none⟩) (by simp) _).setCell (p := ⟨w.heap.size + 1, 2, none⟩) (by simp) _)⟩
          · have hk' : k = s.size := by omega
            have HT : Hid (isG (r, c, s) = true) := Lib.hid (decide_eq_true ⟨⟨hr1, hr2⟩, ⟨hc1, hc2⟩, HZ.out, by have h9 := HL.out; rw [hk', ← size_list, List.take_length] at h9; exact h9⟩)
            have HF : Hid (brd (r, c, s) = (r, c, wT s s.size)) := Lib.hid (by unfold brd; rw [HT.out]; rfl)
            rw [hk'] at HP
            obtain ⟨p0, p1, p2, q0, q1, q2⟩ := cells3 HP.out
            obtain ⟨z0, z1, z2, y0, y1, y2⟩ := cells3 HR.out
            clear hk'
            go_wp2
            exact bodyPost_ret (v := .tuple #[.agg #[.int .i64 r, .int .i64 c, .int .u64 ((wT s s.size : Nat) : Int)], .bool true]) (by simp [results, Tryd.results31, go_sem, z0, z1, z2]) rfl ⟨by rw [HF.out, HT.out]; rfl, (((HB.out.setCell (p := ⟨w.heap.size + 1, 0, none⟩) (by simp) _).setCell (p := ⟨w.heap.size + 1, 1, none⟩) (by simp) _).setCell (p := ⟨w.heap.size + 1, 2, none⟩) (by simp) _)⟩
      · have hn : ((s.size : Int) != r * c) = true := by simpa using hz
        have HF : Hid (isG (r, c, s) = false) := Lib.hid (decide_eq_false (fun h => hz h.2.2.1))
        have HN := Lib.hid (HNO.out HF.out)
        clear hz
        have FL := Lib.hid trivial
        go_wp2_with (first | (go_at_call 51; have FG := FL; refine (inr_yes r _ _ (by omega) (by omega) _).mono ?_; rintro e w1 ⟨rfl, rfl⟩; clear FL FG) | (go_at_call 51; refine (inr_yes c _ _ (by omega) (by omega) _).mono ?_; rintro e w1 ⟨rfl, rfl⟩))
        exact bodyPost_ret (v := .tuple #[.agg #[.int .i64 0, .int .i64 0, .int .u64 0], .bool false]) (by simp [results, Tryd.results31, go_sem, z0, z1, z2]) rfl ⟨by rw [HF.out, HN.out]; rfl, (((HB.out.setCell (p := ⟨w.heap.size + 1, 0, none⟩) (by simp) _).setCell (p := ⟨w.heap.size + 1, 1, none⟩) (by simp) _).setCell (p := ⟨w.heap.size + 1, 2, none⟩) (by simp) _)⟩
    · have HF : Hid (isG (r, c, s) = false) := Lib.hid (decide_eq_false (fun h => hc h.2.1))
      have HN2 := Lib.hid (HNO.out HF.out)
      have HN := Lib.hid hc
      clear hc
      have FL := Lib.hid trivial
      go_wp2_with (first | (go_at_call 51; have FG := FL; refine (inr_yes r _ _ (by omega) (by omega) _).mono ?_; rintro e w1 ⟨rfl, rfl⟩; clear FL FG) | (go_at_call 51; refine (inr_no c _ _ HN.out _).mono ?_; rintro e w1 ⟨rfl, rfl⟩))
      exact bodyPost_ret (v := .tuple #[.agg #[.int .i64 0, .int .i64 0, .int .u64 0], .bool false]) (by simp [results, Tryd.results31, go_sem, z0, z1, z2]) rfl ⟨by rw [HF.out, HN2.out]; rfl, (((HB.out.setCell (p := ⟨w.heap.size + 1, 0, none⟩) (by simp) _).setCell (p := ⟨w.heap.size + 1, 1, none⟩) (by simp) _).setCell (p := ⟨w.heap.size + 1, 2, none⟩) (by simp) _)⟩
  · have HF : Hid (isG (r, c, s) = false) := Lib.hid (decide_eq_false (fun h => hr h.1))
    have HN2 := Lib.hid (HNO.out HF.out)
    have HN := Lib.hid hr
    clear hr
    go_wp2_with (go_at_call 51; refine (inr_no r _ _ HN.out _).mono ?_; rintro e w1 ⟨rfl, rfl⟩)
    exact bodyPost_ret (v := .tuple #[.agg #[.int .i64 0, .int .i64 0, .int .u64 0], .bool false]) (by simp [results, Tryd.results31, go_sem, z0, z1, z2]) rfl ⟨by rw [HF.out, HN2.out]; rfl, (((HB.out.setCell (p := ⟨w.heap.size + 1, 0, none⟩) (by simp) _).setCell (p := ⟨w.heap.size + 1, 1, none⟩) (by simp) _).setCell (p := ⟨w.heap.size + 1, 2, none⟩) (by simp) _)⟩
end Go.Proofs.YtgpplfhbgkcjhaaDoor
