/-
  Contract of impl.labelBytes: the bytes of the label, where utf8's two tables lie as they are laid.
-/
import Derived.Test.YtkofmllikneleaaDoorConcat
import Derived.Test.YtkofmllikneleaaDoorStrBytes
import Derived.Test.YtkofmllikneleaaDoorShelf
import Derived.Lib.MapLaws
import Derived.Lib.TrimUEq
import Derived.Lib.QuoteLoop
import Derived.Lib.AppendStr
import Derived.Lib.IndexBytes
namespace Go.Proofs.YtkofmllikneleaaDoor
open Go.RowKit

/-- The two tables of utf8 lie as they are laid. -/
def Tabs (w : World) : Prop := Lib.Utf8Tabs 0 1 w
theorem Tabs.later {w w' : World} (h : Tabs w) (hb : Below w.heap.size w w') : Tabs w' :=
  ⟨fun c hc => (hb.cell (World.block_lt_of_cell? w _ (h.1 c hc))).trans (h.1 c hc),
   fun i hi => ⟨(hb.cell (World.block_lt_of_cell? w _ (h.2 i hi).1)).trans (h.2 i hi).1, (hb.cell (World.block_lt_of_cell? w _ (h.2 i hi).2)).trans (h.2 i hi).2⟩⟩
def strLen : Value → Nat
  | .string t => t.size
  | _ => 0
theorem go_decode (t : ByteArray) (h : t.size ≠ 0) : Lib.decodeGo t = Lib.decodeL t.data.toList := by
  unfold Lib.decodeGo
  rw [if_neg h]
  have := Lib.decodeL_drop t 0
  rw [List.drop_zero] at this
  exact this.symm
theorem go_decode_le (t : ByteArray) (h : t.size ≠ 0) : 1 ≤ (Lib.decodeGo t).2 ∧ (Lib.decodeGo t).2 ≤ t.size ∧ (Lib.decodeGo t).1 ≤ 1114111 := by
  unfold Lib.decodeGo
  rw [if_neg h]
  refine ⟨Lib.width_pos t 0, ?_, Lib.rune_le t 0⟩
  rw [Lib.decode_at]
  exact Lib.decodeN_width_le _ _ _ _ _ (by omega)

theorem infoU8e : (Tryd.prog.info? 5).map (fun i => (i.zero, i.size, i.bytes)) = some (some (.int .u8 0), 1, 1) := by kernel_rfl
set_option maxHeartbeats 1600000 in
theorem label_any (s : ByteArray) (hs : s.size ≤ 1048576) (w : World) (hT : Tabs w) :
    Calls Tryd.prog 24 #[.string s] w fun e w' => ∃ v', e = .returned v' ∧ w'.ownsRow w.heap.size 5 1 v' s.data.toList.length (Lib.byteCells s.data.toList) ∧ Below w.heap.size w w' := by
  obtain ⟨i0, hi, hz0, hz1, hz2⟩ := info_parts infoU8e
  have HT := Lib.hid hT
  have HS := Lib.hid (Lib.size_eq s)
  clear hT
  go_enter Tryd.func24, Tryd.ntmps24
  go_wp2
  go_loopw [0, 3] (fun x o wr => ∃ (t : ByteArray) (p : List UInt8), x = .string t ∧ t.size ≤ s.size ∧ Hid (p ++ t.data.toList = s.data.toList) ∧ Hid (wr.ownsRow w.heap.size 5 1 o p.length (Lib.byteCells p)) ∧ Below w.heap.size w wr) (fun x _ _ => strLen x)
  case atStart => exact ⟨s, [], rfl, Nat.le_refl _, Lib.hid rfl, Lib.hid (own_empty w _), (Below.refl _ _).alloc (Nat.le_refl _) _⟩
  case round =>
    obtain ⟨t, p, rfl, hts, HP, HO, hbl⟩ := hrel
    by_cases h0 : t.size = 0
    · have hz : t.data.toList = [] := List.eq_nil_of_length_eq_zero (by rw [← Lib.size_eq]; exact h0)
      have HF : Hid (wr.ownsRow w.heap.size 5 1 _ s.data.toList.length (Lib.byteCells s.data.toList)) := Lib.hid (by rw [← HP.out, hz, List.append_nil]; exact HO.out)
      clear hz
      go_wp2
      go_ret
      exact ⟨_, rfl, HF.out, hbl⟩
    · obtain ⟨hk1, hk2, hr⟩ := go_decode_le t h0
      have HD := Lib.hid (go_decode t h0)
      have HTW : Hid (Tabs wr) := Lib.hid (HT.out.later hbl)
      have HC := Lib.hid (Tryd.utf8_DecodeRuneInString t wr HTW.out)
      obtain ⟨R, hR⟩ : ∃ R, R = (Lib.decodeGo t).1 := ⟨_, rfl⟩
      obtain ⟨k, hk⟩ : ∃ k, k = (Lib.decodeGo t).2 := ⟨_, rfl⟩
      rw [← hR, ← hk] at HC
      rw [← hk] at hk1 hk2
      rw [← hR] at hr
      have HR := Lib.hid hR
      have HK := Lib.hid hk
      have hsz0 : 0 < t.size := by omega
      have HLEN : Hid ((p ++ t.data.toList.take k).length + (t.size - k) = s.size) := Lib.hid (by
        have h1 := congrArg List.length HP.out
        rw [List.length_append, ← Lib.size_eq, ← Lib.size_eq] at h1
        rw [List.length_append, List.length_take, ← Lib.size_eq]
        omega)
      have hpl : p.length + t.size ≤ 1048576 := by
        have h1 := congrArg List.length HP.out
        rw [List.length_append, ← Lib.size_eq, ← Lib.size_eq] at h1
        omega
      clear hR hk h0
      by_cases hbad : R = 65533
      · have hq : ((R : Int) == 65533) = true := by subst hbad; rfl
        clear hbad
        go_wp2_with (first | (go_at_call 32; refine HC.out.mono ?_; rintro e w1 ⟨rfl, b1⟩; have hb1 := hbl.trans (b1.mono hbl.size); have HO1 := Lib.hid (own_later HO.out b1)) | (at_builtin; refine Lib.wpList_append_own_string _ rfl _ _ 22 9 rfl w.heap.size 5 i0 Tryd.underlying22 Tryd.underlying9 hi hz0 hz1 hz2 _ _ _ rfl HO1.out (t.extract 0 k) rfl (by unfold maxLen; rw [Lib.size_eq, Lib.extract_data, List.length_take]; omega) (by rw [Lib.size_eq, Lib.extract_data, List.length_take]; omega) (by have := hb1.size; omega) ?_; intro v2 w2 hown2 hgrow2 _))
        have hw2 := below_own hb1 hgrow2 HO1.out (Nat.le_refl _) (by have := hb1.size; omega)
        have HO2 : Hid (w2.ownsRow w.heap.size 5 1 v2 (p ++ t.data.toList.take k).length (Lib.byteCells (p ++ t.data.toList.take k))) := Lib.hid (by
          have h9 := hown2
          rw [Lib.strCells_eq, Lib.extract_data, ← Lib.byteCells_append, Lib.size_eq, Lib.extract_data, List.drop_zero, Nat.sub_zero, ← List.length_append] at h9
          exact h9)
        clear hown2 hgrow2
        go_roundw
        case rel => exact ⟨t.extract k t.size, p ++ t.data.toList.take k, rfl, by rw [Lib.size_eq, Lib.extract_to_end, List.length_drop, ← Lib.size_eq]; omega, Lib.hid (by rw [Lib.extract_to_end, List.append_assoc, List.take_append_drop]; exact HP.out), HO2, hw2⟩
        case measure => simp only [strLen]; rw [Lib.size_eq, Lib.extract_to_end, List.length_drop, ← Lib.size_eq]; omega
      · have hq : ((R : Int) == 65533) = false := by simp; omega
        have HRC : Hid (Lib.runeCells (R : Int) = Lib.byteCells (t.data.toList.take k)) := Lib.hid (by
          rw [← Lib.byteCells_encodeRune, HR.out, HK.out, HD.out]
          congr 1
          refine Lib.encode_decode t.data.toList (fun e => ?_) (fun h => hbad ?_)
          · rw [Lib.size_eq, e] at hsz0; simp at hsz0
          · rw [HR.out, HD.out]; exact h.1)
        have HRL : Hid ((Lib.runeCells (R : Int)).length = (t.data.toList.take k).length) := Lib.hid (by rw [HRC.out, Lib.byteCells_length])
        clear hbad
        go_wp2_with (first | (go_at_call 32; refine HC.out.mono ?_; rintro e w1 ⟨rfl, b1⟩; have hb1 := hbl.trans (b1.mono hbl.size); have HO1 := Lib.hid (own_later HO.out b1)) | (go_at_call 33; refine (Tryd.utf8_AppendRune_plain w.heap.size _ p.length (Lib.byteCells p) (R : Int) (by omega) (by omega) w1 HO1.out (by omega) hb1.size).mono ?_; rintro e w2 ⟨v2, rfl, hown2, o2, hgrow2⟩))
        have hw2 := below_own (hb1.alloc hb1.size o2) hgrow2 (HO1.out.alloc o2) (Nat.le_refl _) (by have := hb1.size; simp; omega)
        have HO2 : Hid (w2.ownsRow w.heap.size 5 1 v2 (p ++ t.data.toList.take k).length (Lib.byteCells (p ++ t.data.toList.take k))) := Lib.hid (by
          have h9 := hown2
          rw [HRL.out, HRC.out, ← Lib.byteCells_append, ← List.length_append] at h9
          exact h9)
        clear hown2 hgrow2
        go_roundw
        case rel => exact ⟨t.extract k t.size, p ++ t.data.toList.take k, rfl, by rw [Lib.size_eq, Lib.extract_to_end, List.length_drop, ← Lib.size_eq]; omega, Lib.hid (by rw [Lib.extract_to_end, List.append_assoc, List.take_append_drop]; exact HP.out), HO2, hw2⟩
        case measure => simp only [strLen]; rw [Lib.size_eq, Lib.extract_to_end, List.length_drop, ← Lib.size_eq]; omega

theorem byteCells_bytesI (s : ByteArray) : Lib.byteCells s.data.toList = (bytesI s).map (Value.int .u8) := by
  unfold Lib.byteCells bytesI
  rw [List.map_map]
  rfl
set_option maxHeartbeats 800000 in
theorem ider_any (s : Int) (t : ByteArray) (ht : t.size ≤ 1048576) (w : World) (hT : Tabs w) :
    Calls Tryd.prog 13 #[.int .i64 s, .string t] w fun e w' => e = .returned (.int .i64 (derive s t)) ∧ Below w.heap.size w w' := by
  have hbl := bytesI_length t
  have hkr := khash_range s (b2i (bytesI t))
  obtain ⟨H, hH⟩ : ∃ H, H = khash s (b2i (bytesI t)) := ⟨_, rfl⟩
  rw [← hH] at hkr
  have HD : Hid ((if 1 < H then H else 1) = derive s t) := Lib.hid (by unfold derive; rw [hH])
  have HKEY : Hid (∀ (v : Value) (W : World), Reads W.heap.size W v .i64 (b2i (bytesI t)) → Calls Tryd.prog 7 #[.int .i64 s, v] W fun e w' => e = .returned (.int .i64 H) ∧ Below W.heap.size W w') := Lib.hid (fun v W hR => by rw [hH]; exact ikh_any s _ (by unfold b2i; simp; omega) v W hR)
  have HT := Lib.hid hT
  have hl2 : (bytesI t).length ≤ 1048576 := by omega
  have HL : Hid (t.data.toList.length = (bytesI t).length) := Lib.hid (by rw [hbl, Lib.size_eq])
  clear hH hbl hT
  by_cases h0 : H = 0
  · have hq : (H == 0) = true := by subst h0; rfl
    have HF : Hid (1 = derive s t) := Lib.hid (by rw [← HD.out, if_neg (by omega)])
    clear h0
    go_enter Tryd.func13, Tryd.ntmps13
    go_wp2_with (first | (go_at_call 24; refine (label_any t ht _ HT.out).mono ?_; rintro e w1 ⟨v1, rfl, o1, b1⟩; rw [HL.out, byteCells_bytesI] at o1; have HO1 := Lib.hid o1; clear o1) | (go_at_call 23; refine (ib2i_any (bytesI t) (by omega) (bytesI_byte t) _ _ (reads_own HO1.out rfl (by omega))).mono ?_; rintro e w2 ⟨v2, rfl, o2, b2⟩; have HO2 := Lib.hid o2; clear o2) | (go_at_call 7; refine (HKEY.out v2 _ (reads_own HO2.out rfl (by unfold b2i; simp; omega))).mono ?_; rintro e w3 ⟨rfl, b3⟩))
    go_ret
    exact ⟨by rw [← HF.out]; rfl, btrans (btrans b1 b2) b3⟩
  · have hq : (H == 0) = false := by simp; omega
    have HF : Hid (H = derive s t) := Lib.hid (by rw [← HD.out]; split <;> omega)
    clear h0
    go_enter Tryd.func13, Tryd.ntmps13
    go_wp2_with (first | (go_at_call 24; refine (label_any t ht _ HT.out).mono ?_; rintro e w1 ⟨v1, rfl, o1, b1⟩; rw [HL.out, byteCells_bytesI] at o1; have HO1 := Lib.hid o1; clear o1) | (go_at_call 23; refine (ib2i_any (bytesI t) (by omega) (bytesI_byte t) _ _ (reads_own HO1.out rfl (by omega))).mono ?_; rintro e w2 ⟨v2, rfl, o2, b2⟩; have HO2 := Lib.hid o2; clear o2) | (go_at_call 7; refine (HKEY.out v2 _ (reads_own HO2.out rfl (by unfold b2i; simp; omega))).mono ?_; rintro e w3 ⟨rfl, b3⟩))
    go_ret
    exact ⟨by rw [← HF.out]; rfl, btrans (btrans b1 b2) b3⟩
theorem i_DeriveFromString (s : Int) (t : ByteArray) (w : World) (_lo : -9223372036854775808 ≤ s) (_hi : s ≤ 9223372036854775807) (ht : t.size ≤ 1048576) (hT : Tabs w) :
    Calls Tryd.prog 13 #[.int .i64 s, .string t] w fun e w' => ∃ r, r = derive s t ∧ e = .returned (.int .i64 r) ∧ Below w.heap.size w w' :=
  (ider_any s t ht w hT).mono fun _ _ ⟨h1, h2⟩ => ⟨_, rfl, h1, h2⟩
end Go.Proofs.YtkofmllikneleaaDoor
