/-
  DomainsOf, of the model and of the program.
-/
import Derived.Test.YtgjijmcedonlmaaGreatDoorFillU
import Derived.Test.YtgjijmcedonlmaaGreatDoorFillE
import Derived.Test.YtgjijmcedonlmaaGreatDoorPatImplD
import Derived.Test.YtgjijmcedonlmaaGreatDoorNest
namespace Go.Proofs.YtgjijmcedonlmaaGreatDoor
open Go.RowKit

def domsTo (g : Int × Int × ByteArray) (f : ByteArray) (ws : List ByteArray) (n : Nat) : List (List ByteArray) := (List.range n).map fun (i : Nat) => fitW ws (patF g f (i : Int))
/-- The words that fit each slot. -/
def domsF (g : Int × Int × ByteArray) (f : ByteArray) (ws : List ByteArray) : List (List ByteArray) := if isF g f = true then domsTo g f ws (slG g).length else []
theorem domsTo_next (g : Int × Int × ByteArray) (f : ByteArray) (ws : List ByteArray) (n : Nat) : domsTo g f ws (n + 1) = domsTo g f ws n ++ [fitW ws (patF g f (n : Int))] := by
  unfold domsTo
  rw [List.range_succ, List.map_append]
  rfl
theorem domsTo_length (g : Int × Int × ByteArray) (f : ByteArray) (ws : List ByteArray) (n : Nat) : (domsTo g f ws n).length = n := by simp [domsTo]
theorem domsF_few (g : Int × Int × ByteArray) (f : ByteArray) (ws : List ByteArray) : (domsF g f ws).length ≤ 72 := by
  unfold domsF
  split
  · rw [domsTo_length]; exact slG_length g
  · simp
theorem domsF_short (g : Int × Int × ByteArray) (f : ByteArray) (ws : List ByteArray) : ∀ m ∈ domsF g f ws, m.length ≤ ws.length := by
  intro m hm
  unfold domsF at hm
  split at hm
  · obtain ⟨i, -, rfl⟩ := List.mem_map.1 hm
    exact fitW_length _ _
  · cases hm
theorem one_src1 (W : World) (v : Value) (t : TypeId) : ∀ j, j < 1 * 1 → ∃ b off, (some ⟨W.heap.size, 0, none⟩ : Option Addr) = some ⟨b, off, none⟩ ∧ (W.alloc (.cells #[v] t)).cell? ⟨b, off + j, none⟩ = [v][j]? := fun j hj => by
  obtain rfl : j = 0 := by omega
  exact ⟨W.heap.size, 0, rfl, by simp⟩
set_option maxRecDepth 100000 in
set_option maxHeartbeats 3200000 in
theorem sdom_any (r c : Int) (s f : ByteArray) (ws : List ByteArray) (hs : s.size ≤ 4194304) (hf : f.size ≤ 4194304) (hl : ws.length ≤ 1048576) (v : Value) (w : World) (hv : ReadsS w.heap.size w v ws) :
    Calls Tryz.prog 37 #[.agg #[.int .i64 r, .int .i64 c, .string s], .string f, v] w fun e w' => ∃ v', e = .returned v' ∧ OwnT w' w.heap.size w'.heap.size v' (domsF (r, c, s) f ws) ∧ Below w.heap.size w w' := by
  obtain ⟨i0, hi, hz0, hz1, hz2⟩ := info_parts infoStrS
  have HIF := Lib.hid (fun w => sisf_any r c s f hs hf w)
  have HSL := Lib.hid (fun w => ssl_any r c s hs w)
  have HSP := Lib.hid (fun (k : Nat) w => spat_any r c s f (k : Int) hs hf w)
  have HLEN := Lib.hid (slG_length (r, c, s))
  have HW : Hid (domsF (r, c, s) f ws = if isF (r, c, s) f = true then domsTo (r, c, s) f ws (slG (r, c, s)).length else []) := Lib.hid rfl
  have HWF : Hid (∀ (k : Nat) (W : World), Below w.heap.size w W → Calls Tryz.prog 78 #[v, .string (patF (r, c, s) f (k : Int))] W fun e w' => ∃ v', e = .returned v' ∧ w'.ownsRow W.heap.size 9 1 v' (fitW ws (patF (r, c, s) f (k : Int))).length ((fitW ws (patF (r, c, s) f (k : Int))).map Value.string) ∧ Below W.heap.size W w') := Lib.hid (fun k W hW => swf_any ws (patF (r, c, s) f (k : Int)) (by omega) v W (hv.now hW))
  obtain ⟨aw, nw, cw, rfl⟩ : ∃ a n c, v = .slice a n c := by obtain ⟨-, a0, cap, e, -⟩ := hv.cells; exact ⟨_, _, _, e⟩
  obtain ⟨l, hll⟩ : ∃ l, l = slG (r, c, s) := ⟨_, rfl⟩
  rw [← hll] at HSL HLEN HW
  clear hll hv
  have hl72 := HLEN.out
  have HWN := Lib.hid (fun n => domsTo_next (r, c, s) f ws n)
  have HDL := Lib.hid (fun n => domsTo_length (r, c, s) f ws n)
  have HKP : Hid (∀ w', Below (w.alloc (.cells #[.int .i64 r, .int .i64 c, .string s] 25)).heap.size (w.alloc (.cells #[.int .i64 r, .int .i64 c, .string s] 25)) w' → w'.cell? ⟨w.heap.size, 0, none⟩ = some (.int .i64 r) ∧ w'.cell? ⟨w.heap.size, 1, none⟩ = some (.int .i64 c) ∧ w'.cell? ⟨w.heap.size, 2, none⟩ = some (.string s)) := Lib.hid (fun w' h => ⟨(h.cell (p := ⟨w.heap.size, 0, none⟩) (by simp)).trans (by simp), (h.cell (p := ⟨w.heap.size, 1, none⟩) (by simp)).trans (by simp), (h.cell (p := ⟨w.heap.size, 2, none⟩) (by simp)).trans (by simp)⟩)
  have HBX : Hid (Below w.heap.size w (w.alloc (.cells #[.int .i64 r, .int .i64 c, .string s] 25))) := Lib.hid ((Below.refl _ _).alloc (Nat.le_refl _) _)
  obtain ⟨p, hp⟩ : ∃ p, p = isF (r, c, s) f := ⟨_, rfl⟩
  rw [← hp] at HIF HW
  clear hp
  go_enter Tryz.func37, Tryz.ntmps37
  go_wp2_with fail
  obtain ⟨W0, hW0⟩ : ∃ W0, W0 = w.alloc (.cells #[.int .i64 r, .int .i64 c, .string s] 25) := ⟨_, rfl⟩
  have hws : W0.heap.size = w.heap.size + 1 := by rw [hW0]; simp
  rw [← hW0] at HKP HBX ⊢
  clear hW0
  have HO0 : Hid (OwnN fS 1 34 9 (W0.alloc (.cells #[] 34)) W0.heap.size (W0.alloc (.cells #[] 34)).heap.size (.slice (some ⟨w.heap.size + 1, 0, none⟩) 0 0) [] []) := Lib.hid (OwnN.empty (by rw [← hws]; exact own_empty2 W0 _ 1))
  have HB0 := Lib.hid ((Below.refl W0.heap.size W0).alloc (Nat.le_refl _) (.cells #[] 34))
  obtain ⟨d0, d1, d2⟩ := HKP.out _ HB0.out
  go_wp2_with (go_at_call 59; refine (HSL.out _).mono ?_; rintro e w2 ⟨v2, rfl, o2, b2⟩; obtain ⟨a0, cap, rfl⟩ := ownV_slice o2; have HO2 := Lib.hid (HO0.out.now b2); have HB2 := Lib.hid (HB0.out.trans (b2.mono HB0.out.size)); clear o2 b2)
  clear d0 d1 d2 HO0 HB0 HSL
  cases p with
  | false =>
    have HF : Hid (domsF (r, c, s) f ws = []) := Lib.hid (by rw [HW.out]; rfl)
    go_loopw [7, 9] (fun o i wr => i = .int .i64 0 ∧ Hid (∃ us, OwnN fS 1 34 9 wr W0.heap.size wr.heap.size o us []) ∧ Hid (Below W0.heap.size W0 wr)) (fun _ _ _ => 0)
    case atStart => exact ⟨rfl, Lib.hid ⟨_, HO2.out⟩, HB2⟩
    case round =>
      clear HO2 HB2
      obtain ⟨rfl, ⟨us, hn⟩, HB⟩ := hrel
      have HO := Lib.hid hn
      clear hn
      obtain ⟨d0, d1, d2⟩ := HKP.out _ HB.out
      by_cases h0 : 0 < l.length
      · have hd : decide ((0 : Int) < (l.length : Int)) = true := decide_eq_true (by omega)
        have hd9 : decide (0 < l.length) = true := decide_eq_true h0
        go_wp2_with (go_at_call 77; refine (HIF.out _).mono ?_; rintro e w3 ⟨rfl, b3⟩; have HB3 := Lib.hid (HB.out.trans (b3.mono HB.out.size)); have HO3 := Lib.hid (HO.out.now b3); clear b3)
        go_ret
        exact ⟨_, rfl, by rw [HF.out]; exact ⟨us, HO3.out.under (by omega)⟩, HBX.out.trans (HB3.out.mono HBX.out.size)⟩
      · have hd : decide ((0 : Int) < (l.length : Int)) = false := decide_eq_false (by omega)
        have hd9 : decide (0 < l.length) = false := decide_eq_false h0
        go_wp2
        go_ret
        exact ⟨_, rfl, by rw [HF.out]; exact ⟨us, HO.out.under (by omega)⟩, HBX.out.trans (HB.out.mono HBX.out.size)⟩
  | true =>
    have HF : Hid (domsF (r, c, s) f ws = domsTo (r, c, s) f ws l.length) := Lib.hid (by rw [HW.out]; rfl)
    go_loopw [7, 9] (fun o i wr => ∃ k : Nat, k ≤ l.length ∧ i = .int .i64 (k : Int) ∧ Hid (∃ us, OwnN fS 1 34 9 wr W0.heap.size wr.heap.size o us (domsTo (r, c, s) f ws k)) ∧ Hid (Below W0.heap.size W0 wr)) (fun _ i _ => l.length - (intOf i).toNat)
    case atStart => exact ⟨0, Nat.zero_le _, rfl, Lib.hid ⟨_, HO2.out⟩, HB2⟩
    case round =>
      clear HO2 HB2
      obtain ⟨k, hk, rfl, ⟨us, hn⟩, HB⟩ := hrel
      have HO := Lib.hid hn
      clear hn
      obtain ⟨d0, d1, d2⟩ := HKP.out _ HB.out
      by_cases hlt : k < l.length
      · have hd : decide ((k : Int) < (l.length : Int)) = true := decide_eq_true (by omega)
        have hd9 : decide (k < l.length) = true := decide_eq_true hlt
        have HNX := Lib.hid (HWN.out k)
        have HP1 := Lib.hid (HSP.out k)
        have HW1 := Lib.hid (HWF.out k)
        have hdl := HDL.out k
        obtain ⟨L, hL⟩ : ∃ L, L = domsTo (r, c, s) f ws k := ⟨_, rfl⟩
        rw [← hL] at HO HNX hdl
        obtain ⟨P, hP⟩ : ∃ P, P = patF (r, c, s) f (k : Int) := ⟨_, rfl⟩
        rw [← hP] at HNX HP1 HW1
        obtain ⟨F, hF⟩ : ∃ F, F = fitW ws P := ⟨_, rfl⟩
        rw [← hF] at HNX HW1
        clear hL hP hF
        go_wp2_with (first | (go_at_call 77; refine (HIF.out _).mono ?_; rintro e w3 ⟨rfl, b3⟩; have HB3 := Lib.hid (HB.out.trans (b3.mono HB.out.size)); obtain ⟨g0, g1, g2⟩ := HKP.out _ HB3.out; have HO3 := Lib.hid (HO.out.later (Nat.le_refl _) b3); have HZ3 := Lib.hid b3.size; clear b3) | (go_at_call 79; refine (HP1.out _).mono ?_; rintro e w4 ⟨rfl, b4⟩; have HB4 := Lib.hid (HB3.out.trans (b4.mono HB3.out.size)); have HZ4 := Lib.hid (Nat.le_trans HZ3.out b4.size); have HO4 := Lib.hid (HO3.out.later HZ3.out b4); clear b4) | (go_at_call 78; refine (HW1.out _ (HBX.out.trans (HB4.out.mono HBX.out.size))).mono ?_; rintro e w5 ⟨v5, rfl, o5, b5⟩; obtain ⟨a5, c5, rfl⟩ := ownV_slice o5; have HB5 := Lib.hid (HB4.out.trans (b5.mono HB4.out.size)); have HO5 := Lib.hid (HO4.out.later HZ4.out b5); have HT5 := Lib.hid (fun q h => Nat.le_trans HZ4.out (o5.lt q h).1); have HU5 := Lib.hid (own_base (own_fS o5) HB4.out.size); have HZ5 := Lib.hid (Nat.le_trans HZ4.out b5.size); clear o5 b5) | (at_builtin; refine list_appendW _ rfl _ _ 26 rfl W0.heap.size 34 i0 (.slice none 0 0) 1 24 Tryz.underlying26 hi hz0 hz1 hz2 rfl (by decide) _ _ _ rfl (HO5.out.row.alloc _) ⟨w5.heap.size, 0, none⟩ 1 1 [.slice a5 F.length c5] rfl rfl (by decide) (by simp [Value.oneCell']) (one_src1 w5 _ _) (by omega) (by omega) (le_alloc HB5.out.size _) ?_; intro v6 w6 hown hgrow hwhere))
        have HB6 := Lib.hid ((HB5.out.alloc HB5.out.size (.cells #[.slice a5 F.length c5] 34)).grown hgrow (le_alloc HB5.out.size _) (fun q h => (HO5.out.low q h).1))
        have HN6 := Lib.hid (HO5.out.appended HZ5.out _ HU5.out HT5.out hown hgrow hwhere)
        clear hown hgrow hwhere
        go_roundw
        case rel => exact ⟨k + 1, by omega, by go_num, Lib.hid ⟨_, by rw [HNX.out]; exact HN6.out⟩, HB6⟩
        case measure => simp [intOf]; omega
      · have hd : decide ((k : Int) < (l.length : Int)) = false := decide_eq_false (by omega)
        have hd9 : decide (k < l.length) = false := decide_eq_false hlt
        have HV : Hid (OwnT wr w.heap.size wr.heap.size u7 (domsF (r, c, s) f ws)) := Lib.hid ⟨us, by
          rw [HF.out, ← show k = l.length by omega]
          exact HO.out.under (by omega)⟩
        go_wp2
        go_ret
        exact ⟨_, rfl, HV.out, HBX.out.trans (HB.out.mono HBX.out.size)⟩
end Go.Proofs.YtgjijmcedonlmaaGreatDoor
