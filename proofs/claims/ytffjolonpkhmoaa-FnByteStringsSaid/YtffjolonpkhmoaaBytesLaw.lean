/-
  The walk of the law FnByteStrings: true at every byte slice.
-/
import Derived.Test.YtffjolonpkhmoaaSame
import Derived.Test.YtffjolonpkhmoaaDrawBytes
import Derived.Test.YtffjolonpkhmoaaImplReadInts
import Derived.Deep.RegionWith
namespace Go.Proofs.Ytffjolonpkhmoaa.fnByteStrings
open Go.RowKit

theorem uv_in {x : Int} (h : 0 ≤ x ∧ x ≤ 1000000000000) : uv x = enc x.toNat := by unfold uv; rw [if_pos h]
/-- Between two lists of bytes a varint is read. -/
theorem rd_mid (L S : List Int) (x : Int) (h : 0 ≤ x ∧ x ≤ 1000000000000) : RD (L ++ uv x ++ S) L.length x (L.length + (uv x).length) := by
  refine ⟨by omega, h.1, h.2, by rw [uv_in h], ?_⟩
  rw [Int.toNat_natCast, List.append_assoc, List.drop_left, uv_in h]
  exact List.prefix_append _ _
theorem rd_end (L : List Int) : ∀ n nx, ¬ RD L L.length n nx := rd_none (p := []) (r := []) (by simp) (by simp) (Or.inl rfl)

theorem rb_mid (L D : List Int) (hD : D.length ≤ 100) : RB (L ++ uv D.length ++ D) L.length D.length D (L ++ uv D.length ++ D).length true := by
  refine Or.inl ⟨rfl, _, _, rd_mid L D D.length (by omega), Int.le_refl _, ?_, ?_, ?_⟩
  · rw [List.length_append, List.length_append]; omega
  · rw [show ((L.length : Int) + (uv D.length).length).toNat = (L ++ uv D.length).length by rw [List.length_append]; omega, List.drop_left, Int.toNat_natCast, List.take_length]
  · rw [List.length_append, List.length_append]; omega
theorem rb_short (L D : List Int) (hD : D.length ≤ 100) : RB (L ++ uv D.length ++ D) L.length (D.length - 1) [] 0 false := by
  refine Or.inr ⟨rfl, rfl, rfl, fun n nx h hh => ?_⟩
  obtain ⟨rfl, rfl⟩ := rd_unique (rd_mid L D D.length (by omega)) h
  omega
theorem app_all {L D : List Int} (hL : ∀ z ∈ L, 0 ≤ z ∧ z ≤ 255) (hD : ∀ z ∈ D, 0 ≤ z ∧ z ≤ 255) (x : Int) : ∀ z ∈ L ++ uv x ++ D, 0 ≤ z ∧ z ≤ 255 := by
  intro z hz
  rcases List.mem_append.1 hz with h | h
  · rcases List.mem_append.1 h with h | h
    · exact hL z h
    · exact uv_byte x z h
  · exact hD z h

theorem encs_byte : ∀ (l : List Int), ∀ z ∈ encs l, 0 ≤ z ∧ z ≤ 255 := by
  intro l z hz
  obtain ⟨x, _, h⟩ := List.mem_flatMap.1 hz
  exact uv_byte x z h
theorem encs_app (a b : List Int) : encs (a ++ b) = encs a ++ encs b := by simp [encs]
theorem dd_encs (l : List Int) (h : ∀ z ∈ l, 0 ≤ z ∧ z ≤ 1000000000000) : ∀ k, k ≤ l.length → DD (encs l) k 0 (l.take k) (encs (l.take k)).length
  | 0, _ => ⟨by simp, by simp [encs]⟩
  | k + 1, hk => by
    have hx := h l[k] (List.getElem_mem _)
    refine ⟨l.take k, (encs (l.take k)).length, l[k], dd_encs l h k (by omega), ?_, List.take_succ_eq_append_getElem (by omega)⟩
    have e : l = l.take k ++ [l[k]] ++ l.drop (k + 1) := by
      rw [← List.take_succ_eq_append_getElem (by omega), List.take_append_drop]
    have e1 : encs l = encs (l.take k) ++ uv l[k] ++ encs (l.drop (k + 1)) := by
      conv => lhs; rw [e]
      rw [encs_app, encs_app]
      simp [encs]
    have e2 : encs (l.take (k + 1)) = encs (l.take k) ++ uv l[k] := by
      rw [List.take_succ_eq_append_getElem (by omega), encs_snoc]
    rw [e2, List.length_append, e1]
    exact rd_mid _ _ _ hx
theorem di_encs (l : List Int) (h : ∀ z ∈ l, 0 ≤ z ∧ z ≤ 1000000000000) (hl : l.length ≤ 100) : DIv (encs l) 0 l.length l (encs l).length true := by
  have h1 := dd_encs l h l.length (Nat.le_refl _)
  rw [List.take_length] at h1
  exact Or.inl ⟨rfl, by omega, by omega, Int.le_refl _, by omega, by rw [Int.toNat_natCast]; exact h1⟩
theorem di_more (l : List Int) (h : ∀ z ∈ l, 0 ≤ z ∧ z ≤ 1000000000000) : DIv (encs l) 0 (l.length + 1) [] 0 false := by
  refine Or.inr ⟨rfl, rfl, rfl, fun _ _ _ _ L nx hd => ?_⟩
  rw [show ((l.length : Int) + 1).toNat = l.length + 1 by omega] at hd
  obtain ⟨L1, mid, x, h1, h2, -⟩ := hd
  have h3 := dd_encs l h l.length (Nat.le_refl _)
  rw [List.take_length] at h3
  obtain ⟨-, rfl⟩ := dd_unique _ h3 h1
  exact rd_end _ _ _ h2

set_option maxHeartbeats 400000 in
theorem at_any (n cap : Nat) (a0 : Option Addr) (B : Nat) (w : World) (hc : Code B w a0 n) (hn : n ≤ 1048576) (i : Int) (hi0 : 0 ≤ i) (hi1 : i ≤ 1000) :
    Calls Try.prog 22 #[.slice a0 n cap, .int .i64 i] w fun e w' => ∃ x : Int, 0 ≤ x ∧ x ≤ 255 ∧ e = .returned (.int .i64 x) ∧ w = w' := by
  obtain ⟨k, rfl⟩ : ∃ k : Nat, i = (k : Int) := ⟨i.toNat, by omega⟩
  by_cases h : k < n
  · obtain ⟨b, off, x, rfl, hb, hx, h0, h1⟩ := hc.2 k h
    clear hc
    go_enter Try.func22, Try.ntmps22
    go_wp2
    go_ret
    exact ⟨x, h0, h1, rfl, rfl⟩
  · clear hc
    go_enter Try.func22, Try.ntmps22
    go_wp2
    go_ret
    exact ⟨((k : Int) * 31 + (n : Int) * 7) % 256, Int.emod_nonneg _ (by decide), by have := Int.emod_lt_of_pos ((k : Int) * 31 + (n : Int) * 7) (show (0 : Int) < 256 by decide); omega, rfl, rfl⟩

theorem infoI : (Try.prog.info? 3).map (fun i => (i.zero, i.size, i.bytes)) = some (some (.int .i64 0), 1, 8) := by kernel_rfl
/-- What stands before the loop: x, y, next, ok, short are as they should be. -/
theorem prod_in {a b c : Int} (a0 : 0 ≤ a) (a1 : a ≤ 255) (b0 : 0 ≤ b) (b1 : b ≤ 255) (c0 : 0 ≤ c) (c1 : c ≤ 255) : 0 ≤ a * b * c ∧ a * b * c ≤ 16581375 ∧ 0 ≤ a * b ∧ a * b ≤ 65025 := by
  have h1 : 0 ≤ a * b := Int.mul_nonneg a0 b0
  have h2 : a * b ≤ 255 * 255 := Int.mul_le_mul a1 b1 b0 (by decide)
  have h3 : 0 ≤ a * b * c := Int.mul_nonneg h1 c0
  have h4 : a * b * c ≤ 255 * 255 * 255 := Int.mul_le_mul h2 c1 c0 (by decide)
  exact ⟨h3, by omega, h1, by omega⟩

theorem prod_wrap {a b c : Int} (a0 : 0 ≤ a) (a1 : a ≤ 255) (b0 : 0 ≤ b) (b1 : b ≤ 255) (c0 : 0 ≤ c) (c1 : c ≤ 255) : 0 ≤ RowKit.wrap64 (RowKit.wrap64 (a * b) * c) ∧ RowKit.wrap64 (RowKit.wrap64 (a * b) * c) ≤ 16581375 := by
  obtain ⟨h1, h2, h3, h4⟩ := prod_in a0 a1 b0 b1 c0 c1
  rw [IntWalk.wrap64_in (a * b) ⟨by omega, by omega⟩, IntWalk.wrap64_in (a * b * c) ⟨by omega, by omega⟩]
  exact ⟨h1, h2⟩

set_option maxRecDepth 100000 in
set_option maxHeartbeats 800000 in
theorem walk (v0 : Value) (l0 : List Int) (w : World) (hR : Reads w.heap.size w v0 .u8 l0) (hB : ∀ z ∈ l0, 0 ≤ z ∧ z ≤ 255) :
    Calls Try.prog 4 #[v0] w fun e w' => e = .returned (.bool true) ∧ Below w.heap.size w w' := by
  obtain ⟨a0, cap, rfl⟩ : ∃ a0 cap, v0 = .slice a0 l0.length cap := ⟨hR.2.choose, hR.2.choose_spec.choose, hR.2.choose_spec.choose_spec.1⟩
  have hc := code_of_reads hR rfl hB
  clear hR hB
  by_cases hbig : 1048576 < l0.length
  · go_enter Try.func4, Try.ntmps4
    go_wp2_with (go_at_call 12; refine (big_yes l0.length cap a0 hbig _).mono ?_; rintro e w1 ⟨rfl, rfl⟩)
    go_ret
    exact ⟨rfl, Below.refl _ _⟩
  · obtain ⟨i0, hi, hz0, hz1, hz2⟩ := info_parts infoI
    go_enter Try.func4, Try.ntmps4
    go_wp2_with (first | (go_at_call 12; refine (big_no l0.length cap a0 (by omega) _).mono ?_; rintro e w0 ⟨rfl, rfl⟩) | (go_at_call 19; refine (dab_any l0.length cap a0 _ hc (by omega)).mono ?_; rintro e w1 ⟨L, D, vb, vd, hL, hD, hLB, hDB, rfl, o1, o1', b1⟩; obtain ⟨ab, cb, rfl⟩ := own_slice o1; obtain ⟨ad, cd, rfl⟩ := own_slice o1'))
    have HLB := Lib.hid hLB
    have HDB := Lib.hid hDB
    have HO1 := Lib.hid o1
    have HD1 := Lib.hid o1'
    have HB1 := Lib.hid b1
    clear o1 o1' b1 hLB hDB
    go_wp2_with (go_at_call 20; refine (i_AppendBytes _ L _ D _ (reads_own HO1.out rfl (by omega)) HLB.out (by omega) (reads_own HD1.out rfl (by omega)) HDB.out (by omega)).mono ?_; rintro e w2 ⟨X, vx, hX, hXn, rfl, o2, b2⟩; obtain ⟨ax, cx, rfl⟩ := own_slice o2; have HXX := Lib.hid hX; clear hX)
    have hXl : X.length ≤ 13 := by have := uv_length D.length; rw [HXX.out, List.length_append, List.length_append]; omega
    have HXB : Hid (∀ z ∈ X, 0 ≤ z ∧ z ≤ 255) := Lib.hid (by rw [HXX.out]; exact app_all HLB.out HDB.out _)
    have HRB : Hid (RB X L.length D.length D X.length true) := Lib.hid (by rw [HXX.out]; exact rb_mid L D (by omega))
    have HRS : Hid (RB X L.length (D.length - 1) [] 0 false) := Lib.hid (by rw [HXX.out]; exact rb_short L D (by omega))
    have HB2 := Lib.hid (btrans HB1.out b2)
    have HD2 := Lib.hid (own_later HD1.out b2)
    have HX2 := Lib.hid o2
    clear o2 b2 HD1 HO1 HB1 HXX
    go_wp2_with (go_at_call 21; refine (i_ReadBytes _ X L.length D.length _ (reads_own HX2.out rfl (by omega)) HXB.out (by omega) (by omega) (by omega) (by omega) (by omega)).mono ?_; rintro e w3 ⟨Ly, nx, ok, vy, HA, hLy, rfl, oy, b3⟩; obtain ⟨rfl, rfl, rfl⟩ := u_ReadBytes HRB.out HA; obtain ⟨ay, cy, rfl⟩ := own_slice oy; clear HA hLy; have HB3 := Lib.hid (btrans HB2.out b3); have HD3 := Lib.hid (own_later HD2.out b3); have HX3 := Lib.hid (own_later HX2.out b3); have HY3 := Lib.hid oy; clear HB2 HD2 HX2 oy b3)
    go_wp2_with (first | (go_at_call 21; refine (i_ReadBytes _ X L.length ((D.length : Int) - 1) _ (reads_own HX3.out rfl (by omega)) HXB.out (by omega) (by omega) (by omega) (by omega) (by omega)).mono ?_; rintro e w4 ⟨Ls, ns, oks, vs, HA, hLs, rfl, os, b4⟩; obtain ⟨rfl, rfl, rfl⟩ := u_ReadBytes HRS.out HA; obtain ⟨aS, cS, rfl⟩ := own_slice os; clear HA hLs; have HB4 := Lib.hid (btrans HB3.out b4); have HD4 := Lib.hid (own_later HD3.out b4); have HY4 := Lib.hid (own_later HY3.out b4); clear HB3 HD3 HX3 HY3 os b4) | (go_at_call 16; refine (same_bytes D _ _ _ (reads_own HY4.out rfl (by omega)) (reads_own HD4.out rfl (by omega))).mono ?_; rintro e w5 ⟨rfl, b5⟩; have HB5 := Lib.hid (btrans HB4.out b5); clear HB4 HD4 HY4 b5))
    go_loopw [12, 13] (fun lv iv wr => ∃ (k : Nat) (l : List Int), k ≤ 5 ∧ iv = .int .i64 k ∧ l.length = k ∧ Hid (∀ z ∈ l, 0 ≤ z ∧ z ≤ 16581375) ∧ Hid (wr.ownsRow w.heap.size 3 1 lv l.length (l.map (Value.int .i64))) ∧ Hid (Below w.heap.size w wr)) (fun _ iv _ => 6 - (intOf iv).toNat)
    case atStart => exact ⟨0, [], by decide, rfl, rfl, Lib.hid (by simp), Lib.hid (own_wide (own_empty w5 _) HB5.out.size), Lib.hid (HB5.out.alloc HB5.out.size _)⟩
    case round =>
      obtain ⟨k, l, hk, rfl, hlk, HL, HO, HBL⟩ := hrel
      subst hlk
      obtain ⟨al, cl, rfl⟩ := own_slice HO.out
      go_wp2_with (first | (go_at_call 22; refine (at_any l0.length cap a0 _ _ (code_later hc HBL.out) (by omega) _ ?_ ?_).mono ?_; omega; omega; rintro e wa ⟨x, hx0, hx1, rfl, rfl⟩) | (go_at_call 23; refine (i_EncodeInts _ l _ (reads_own HO.out rfl (by omega)) (fun z hz => by have := HL.out z hz; omega) (by omega)).mono ?_; rintro e w6 ⟨E, ve, hE, hEn, rfl, oe, b6⟩; obtain ⟨ae, ce, rfl⟩ := own_slice oe; have hEl : E.length ≤ 30 := (by have := encs_length l; rw [hE]; omega); have HEB : Hid (∀ z ∈ E, 0 ≤ z ∧ z ≤ 255) := Lib.hid (by rw [hE]; exact encs_byte l); have HDI : Hid (DIv E 0 l.length l E.length true) := Lib.hid (by rw [hE]; exact di_encs l (fun z hz => by have := HL.out z hz; omega) (by omega)); have HDM : Hid (DIv E 0 ((l.length : Int) + 1) [] 0 false) := Lib.hid (by rw [hE]; exact di_more l (fun z hz => by have := HL.out z hz; omega)); have HB6 := Lib.hid (btrans HBL.out b6); have HO6 := Lib.hid (own_later HO.out b6); have HE6 := Lib.hid oe; clear oe b6 hE) | (at_builtin; rename_i p hp0 hp1 q hq0 hq1; have HZ := Lib.hid (prod_wrap hp0 hp1 hq0 hq1 hx0 hx1); refine append_reads _ rfl _ _ 35 rfl w.heap.size 3 i0 (.int .i64 0) 8 Try.underlying35 hi hz0 hz1 hz2 rfl _ _ _ rfl (HO.out.alloc _) (some ⟨wr.heap.size, 0, none⟩) 1 1 .i64 [_] rfl rfl (fun e => by cases e) (one_src wr _ .i64 _) (by omega) (by omega) (by have := HBL.out.size; simp; omega) ?_; intro v2 w2 hown2 hgrow2))
      · obtain ⟨z, hz⟩ : ∃ z, z = RowKit.wrap64 (RowKit.wrap64 (p * q) * x) := ⟨_, rfl⟩
        rw [← hz] at hown2 HZ
        have HO2 : Hid (w2.ownsRow w.heap.size 3 1 v2 (l ++ [z]).length ((l ++ [z]).map (Value.int .i64))) := Lib.hid (by simpa using hown2)
        have HB2 := Lib.hid (below_own (HBL.out.alloc HBL.out.size _) hgrow2 (HO.out.alloc _) (Nat.le_refl _) (by have := HBL.out.size; simp; omega))
        have HL2 : Hid (∀ y ∈ l ++ [z], 0 ≤ y ∧ y ≤ 16581375) := Lib.hid (fun y hy => by
          rcases List.mem_append.1 hy with h | h
          · exact HL.out y h
          · simp only [List.mem_singleton] at h; subst h; exact HZ.out)
        have hlen : l.length + 1 ≤ 5 := by omega
        clear hown2 hgrow2 hz
        go_roundw
        case rel => exact ⟨l.length + 1, l ++ [z], hlen, by go_num, by simp, HL2, HO2, HB2⟩
        case measure => simp [intOf]; omega
      · go_wp2_with (go_at_call 24; refine (i_DecodeInts _ E 0 l.length _ (reads_own HE6.out rfl (by omega)) HEB.out (by omega) (by omega) (by omega) (by omega) (by omega)).mono ?_; rintro e w7 ⟨M, en, fine, vm, HA, hM, rfl, om, b7⟩; obtain ⟨rfl, rfl, rfl⟩ := u_DecodeInts HDI.out HA; obtain ⟨am, cm, rfl⟩ := own_slice om; clear HA hM; have HB7 := Lib.hid (btrans HB6.out b7); have HO7 := Lib.hid (own_later HO6.out b7); have HE7 := Lib.hid (own_later HE6.out b7); have HM7 := Lib.hid om; clear HB6 HO6 HE6 om b7)
        go_wp2_with (first | (go_at_call 24; refine (i_DecodeInts _ E 0 ((l.length : Int) + 1) _ (reads_own HE7.out rfl (by omega)) HEB.out (by omega) (by omega) (by omega) (by omega) (by omega)).mono ?_; rintro e w8 ⟨M', en', more, vm', HA, hM, rfl, om, b8⟩; obtain ⟨rfl, rfl, rfl⟩ := u_DecodeInts HDM.out HA; clear HA hM; have HB8 := Lib.hid (btrans HB7.out b8); have HO8 := Lib.hid (own_later HO7.out b8); have HM8 := Lib.hid (own_later HM7.out b8); clear HB7 HO7 HE7 HM7 om b8) | (go_at_call 25; refine (same_ints l _ _ _ (reads_own HM8.out rfl (by omega)) (reads_own HO8.out rfl (by omega))).mono ?_; rintro e w9 ⟨rfl, b9⟩))
        go_ret
        exact ⟨rfl, btrans HB8.out b9⟩
end Go.Proofs.Ytffjolonpkhmoaa.fnByteStrings
