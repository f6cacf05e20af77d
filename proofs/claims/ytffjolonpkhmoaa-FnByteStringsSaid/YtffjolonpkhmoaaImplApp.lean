/-
  Contracts of impl.AppendUvarint, impl.AppendBytes, impl.EncodeInts and impl.EqualBytes as the program writes them: bytes.Clone, then appending to the copy.
-/
import Derived.Test.YtffjolonpkhmoaaTwoSpec
namespace Go.Proofs.Ytffjolonpkhmoaa
open Go.RowKit

theorem inr_yes (n lo hi : Int) (h1 : lo ≤ n) (h2 : n ≤ hi) (w : World) :
    Calls Try.prog 52 #[.int .i64 n, .int .i64 lo, .int .i64 hi] w fun e w' => e = .returned (.bool true) ∧ w = w' := by
  go_enter Try.func52, Try.ntmps52
  go_wp2
  go_ret
  exact ⟨rfl, rfl⟩
theorem inr_no (n lo hi : Int) (h : ¬ (lo ≤ n ∧ n ≤ hi)) (w : World) :
    Calls Try.prog 52 #[.int .i64 n, .int .i64 lo, .int .i64 hi] w fun e w' => e = .returned (.bool false) ∧ w = w' := by
  by_cases h1 : lo ≤ n
  · have hd : decide (n ≤ hi) = false := decide_eq_false (by omega)
    clear h
    go_enter Try.func52, Try.ntmps52
    go_wp2
    go_ret
    exact ⟨rfl, rfl⟩
  · have hd : decide (lo ≤ n) = false := decide_eq_false h1
    clear h
    go_enter Try.func52, Try.ntmps52
    go_wp2
    go_ret
    exact ⟨rfl, rfl⟩

theorem own_nil (w : World) (base : Nat) (e : TypeId) : w.ownsRow base e 1 (.slice none 0 0) 0 [] := ⟨by simp, .inl ⟨rfl, rfl⟩⟩

set_option maxHeartbeats 400000 in
theorem clone_at (l : List Int) (hl : l.length ≤ 8388608) (ad : Addr) (cap : Nat) (w : World)
    (hc : ∀ j, j < l.length → ∃ b off, some ad = some ⟨b, off, none⟩ ∧ b < w.heap.size ∧ w.cell? ⟨b, off + j, none⟩ = some (.int .u8 (l.getD j 0))) :
    Calls Try.prog 46 #[.slice (some ad) l.length cap] w fun e w' => ∃ v', e = .returned v' ∧ w'.ownsRow w.heap.size 5 1 v' l.length (l.map (Value.int .u8)) ∧ Below w.heap.size w w' := by
  obtain ⟨i0, hi, hz0, hz1, hz2⟩ := info_parts infoU8
  have q22 : ∀ (w : World) (a : Option Addr) (n c n' c' : Nat), (binOp .eql 22 (.slice a n c) (.slice none n' c')).run Try.prog w = .ok (.bool a.isNone) w := fun w a n c n' c' => Lib.run_eql_slice_nil w _ _ a n c n' c' Try.underlying22
  have HC := Lib.hid hc
  clear hc
  go_enter Try.func46, Try.ntmps46
  go_wp2_with (at_builtin; refine append_reads _ rfl _ _ 22 rfl w.heap.size 5 i0 (.int .u8 0) 1 Try.underlying22 hi hz0 hz1 hz2 rfl _ 0 [] rfl (own_empty w _) (some ad) l.length cap .u8 l rfl rfl (fun e => by cases e) (alloc_src HC.out _) (by omega) (by omega) (by simp) ?_; intro v1 w1 hown hgrow; rw [Nat.zero_add, List.nil_append] at hown)
  go_ret
  exact ⟨_, rfl, hown, below_own ((Below.refl _ _).alloc (Nat.le_refl _) _) hgrow (own_empty w _) (Nat.le_refl _) (by simp)⟩
theorem clone_nil (cap : Nat) (w : World) :
    Calls Try.prog 46 #[.slice none 0 cap] w fun e w' => e = .returned (.slice none 0 0) ∧ w = w' := by
  have q22 : ∀ (w : World) (a : Option Addr) (n c n' c' : Nat), (binOp .eql 22 (.slice a n c) (.slice none n' c')).run Try.prog w = .ok (.bool a.isNone) w := fun w a n c n' c' => Lib.run_eql_slice_nil w _ _ a n c n' c' Try.underlying22
  go_enter Try.func46, Try.ntmps46
  go_wp2
  go_ret
  exact ⟨rfl, rfl⟩
/-- bytes.Clone at every slice of bytes. -/
theorem clone_any (l : List Int) (hl : l.length ≤ 8388608) (v : Value) (w : World) (hv : Reads w.heap.size w v .u8 l) :
    Calls Try.prog 46 #[v] w fun e w' => ∃ v', e = .returned v' ∧ w'.ownsRow w.heap.size 5 1 v' l.length (l.map (Value.int .u8)) ∧ Below w.heap.size w w' := by
  obtain ⟨-, a0, cap, rfl, hcap, hc⟩ := hv
  cases a0 with
  | some ad => exact clone_at l hl ad cap w hc
  | none =>
    have h0 : l.length = 0 := by have := hcap.1 rfl; have := hcap.2.1; omega
    obtain rfl := List.length_eq_zero_iff.1 h0
    exact (clone_nil cap w).mono fun e w' ⟨h1, h2⟩ => by
      subst h2
      exact ⟨_, h1, own_nil _ _ _, Below.refl _ _⟩

/-- What appendGroups leaves: the row goes on, nothing below its base is changed. -/
def AG (base : Nat) (L : List Int) (w : World) (e : Ending) (w' : World) : Prop :=
  ∃ v', e = .returned v' ∧ w'.ownsRow base 5 1 v' L.length (L.map (Value.int .u8)) ∧ Below base w w'

set_option maxHeartbeats 400000 in
theorem ag_no (base : Nat) (l : List Int) (n : Int) (hn : ¬ (0 ≤ n ∧ n ≤ 1000000000000)) (v : Value) (w : World) (ho : w.ownsRow base 5 1 v l.length (l.map (Value.int .u8))) :
    Calls Try.prog 45 #[v, .int .i64 n] w (AG base l w) := by
  have HN := Lib.hid hn
  have HO := Lib.hid ho
  clear hn ho
  go_enter Try.func45, Try.ntmps45
  go_wp2_with (go_at_call 52; refine (inr_no _ _ _ HN.out _).mono ?_; rintro e w2 ⟨rfl, rfl⟩)
  go_ret
  exact ⟨_, rfl, HO.out, Below.refl _ _⟩

set_option maxHeartbeats 800000 in
theorem ag_yes (base : Nat) (l : List Int) (hl : l.length ≤ 8388608) (N : Nat) (hN : N ≤ 1000000000000) (v : Value) (w : World) (ho : w.ownsRow base 5 1 v l.length (l.map (Value.int .u8))) (hbase : base ≤ w.heap.size) :
    Calls Try.prog 45 #[v, .int .i64 N] w (AG base (l ++ enc N) w) := by
  obtain ⟨i0, hi, hz0, hz1, hz2⟩ := info_parts infoU8
  have HE := Lib.hid (enc_length 5 N (by omega))
  have HO := Lib.hid ho
  clear ho
  go_enter Try.func45, Try.ntmps45
  go_wp2_with (go_at_call 52; refine (inr_yes _ _ _ (by omega) (by omega) _).mono ?_; rintro e w2 ⟨rfl, rfl⟩)
  go_loopw [0, 1] (fun o nv wr => ∃ (u : Nat) (ys : List Int), u ≤ 1000000000000 ∧ nv = .int .i64 u ∧ Hid (ys ++ enc u = enc N) ∧ wr.ownsRow base 5 1 o (l ++ ys).length ((l ++ ys).map (Value.int .u8)) ∧ Below base w wr) (fun _ nv _ => (intOf nv).toNat)
  case atStart => exact ⟨N, [], hN, rfl, Lib.hid (List.nil_append _), by simpa using HO.out, Below.refl _ _⟩
  case round =>
    obtain ⟨u, ys, hu, rfl, HY, ho, hbl⟩ := hrel
    have hys : (l ++ ys).length ≤ 8388700 := by
      have h1 := congrArg List.length HY.out
      rw [List.length_append] at h1 ⊢
      have := HE.out
      omega
    have hsz : base ≤ wr.heap.size := Nat.le_trans hbase hbl.size
    by_cases hlt : 127 < u
    · have HG := Lib.hid (group_mod u)
      go_wp2_with (at_builtin; refine append_reads _ rfl _ _ 22 rfl base 5 i0 (.int .u8 0) 1 Try.underlying22 hi hz0 hz1 hz2 rfl _ _ _ rfl (ho.alloc _) (some ⟨wr.heap.size, 0, none⟩) 1 1 .u8 [_] rfl rfl (fun e => by cases e) (one_src wr _ .u8 _) (by omega) (by omega) (by simp; omega) ?_; intro v2 w2 hown2 hgrow2; have HO2 : Hid (w2.ownsRow base 5 1 v2 (l ++ (ys ++ [((u % 128 + 128 : Nat) : Int)])).length ((l ++ (ys ++ [((u % 128 + 128 : Nat) : Int)])).map (Value.int .u8))) := Lib.hid (by have h9 := hown2; rw [HG.out] at h9; simpa [Nat.add_assoc] using h9); clear hown2; have hb2 := below_own (hbl.alloc hsz _) hgrow2 (ho.alloc _) (Nat.le_refl _) (by simp; omega))
      go_roundw
      case rel => exact ⟨u / 128, ys ++ [((u % 128 + 128 : Nat) : Int)], by omega, by go_num, Lib.hid (by rw [← HY.out, enc_large (show ¬ u ≤ 127 by omega)]; simp), HO2.out, hb2⟩
      case measure => simp [intOf]; omega
    · have HG : Hid ((u : Int) % 256 = u) := Lib.hid (by omega)
      go_wp2_with (at_builtin; refine append_reads _ rfl _ _ 22 rfl base 5 i0 (.int .u8 0) 1 Try.underlying22 hi hz0 hz1 hz2 rfl _ _ _ rfl (ho.alloc _) (some ⟨wr.heap.size, 0, none⟩) 1 1 .u8 [_] rfl rfl (fun e => by cases e) (one_src wr _ .u8 _) (by omega) (by omega) (by simp; omega) ?_; intro v2 w2 hown2 hgrow2)
      go_ret
      exact ⟨_, rfl, by rw [← HY.out, enc_small (show u ≤ 127 by omega)]; simpa [HG.out, Nat.add_assoc] using hown2, below_own (hbl.alloc hsz _) hgrow2 (ho.alloc _) (Nat.le_refl _) (by simp; omega)⟩

/-- appendGroups at a row of the call's own and every int. -/
theorem ag_any (base : Nat) (l : List Int) (hl : l.length ≤ 8388608) (n : Int) (v : Value) (w : World) (ho : w.ownsRow base 5 1 v l.length (l.map (Value.int .u8))) (hbase : base ≤ w.heap.size) :
    Calls Try.prog 45 #[v, .int .i64 n] w (AG base (l ++ uv n) w) := by
  by_cases h : 0 ≤ n ∧ n ≤ 1000000000000
  · obtain ⟨N, rfl⟩ : ∃ N : Nat, n = (N : Int) := ⟨n.toNat, by omega⟩
    have e : uv (N : Int) = enc N := by unfold uv; rw [if_pos h]; rfl
    rw [e]
    exact ag_yes base l hl N (by omega) v w ho hbase
  · have e : uv n = [] := by unfold uv; rw [if_neg h]
    rw [e, List.append_nil]
    exact ag_no base l n h v w ho

/-- impl.AppendUvarint at every slice and every int. -/
theorem iapp_any (l : List Int) (hl : l.length ≤ 4194304) (n : Int) (v : Value) (w : World) (hv : Reads w.heap.size w v .u8 l) :
    Calls Try.prog 14 #[v, .int .i64 n] w fun e w' => ∃ v', e = .returned v' ∧ w'.ownsRow w.heap.size 5 1 v' (l ++ uv n).length ((l ++ uv n).map (Value.int .u8)) ∧ Below w.heap.size w w' := by
  have HV := Lib.hid hv
  obtain ⟨-, a0, cap, rfl, -, -⟩ := hv
  go_enter Try.func14, Try.ntmps14
  go_wp2_with (first | (go_at_call 46; refine (clone_any l (by omega) _ _ HV.out).mono ?_; rintro e w1 ⟨v1, rfl, hown, b1⟩) | (go_at_call 45; refine (ag_any w.heap.size l (by omega) n v1 w1 hown b1.size).mono ?_; rintro e w2 ⟨v2, rfl, hown2, b2⟩))
  go_ret
  exact ⟨_, rfl, hown2, b1.trans b2⟩

set_option maxHeartbeats 400000 in
theorem iab_any (l s : List Int) (hl : l.length ≤ 2097152) (hs : s.length ≤ 2097152) (v u : Value) (w : World) (hv : Reads w.heap.size w v .u8 l) (hu : Reads w.heap.size w u .u8 s) :
    Calls Try.prog 20 #[v, u] w fun e w' => ∃ v', e = .returned v' ∧ w'.ownsRow w.heap.size 5 1 v' (l ++ uv s.length ++ s).length ((l ++ uv s.length ++ s).map (Value.int .u8)) ∧ Below w.heap.size w w' := by
  obtain ⟨i0, hi, hz0, hz1, hz2⟩ := info_parts infoU8
  have HU := Lib.hid hu
  obtain ⟨-, a0, cap, rfl, hcap, -⟩ := hu
  have HV := Lib.hid hv
  have HNIL := Lib.hid hcap
  have hul := uv_length s.length
  clear hv hcap
  go_enter Try.func20, Try.ntmps20
  go_wp2_with (first | (go_at_call 14; refine (iapp_any l (by omega) _ v _ HV.out).mono ?_; rintro e w1 ⟨v1, rfl, hown, b1⟩; have HU1 := Lib.hid (HU.out.now b1)) | (at_builtin; obtain ⟨-, a1, c1, e1, -, hsrc⟩ := HU1.out; cases e1; refine append_reads _ rfl _ _ 22 rfl w.heap.size 5 i0 (.int .u8 0) 1 Try.underlying22 hi hz0 hz1 hz2 rfl _ _ _ rfl hown a0 s.length cap .u8 s rfl rfl HNIL.out.1 (now_src hsrc) (by rw [List.length_append]; omega) (by rw [List.length_append]; omega) b1.size ?_; intro v2 w2 hown2 hgrow2))
  go_ret
  exact ⟨_, rfl, by simpa [Nat.add_assoc] using hown2, below_own b1 hgrow2 hown (Nat.le_refl _) b1.size⟩

theorem i_AppendUvarint (v : Value) (l : List Int) (n : Int) (w : World) (hR : Reads w.heap.size w v .u8 l) (_hB : ∀ z ∈ l, 0 ≤ z ∧ z ≤ 255) (hl : l.length ≤ 1048576) (_lo : -9223372036854775808 ≤ n) (_hi : n ≤ 9223372036854775807) :
    Calls Try.prog 14 #[v, .int .i64 n] w fun e w' => ∃ L v', L = l ++ uv n ∧ L.length ≤ 16777216 ∧ e = .returned v' ∧ w'.ownsRow w.heap.size 5 1 v' L.length (L.map (Value.int .u8)) ∧ Below w.heap.size w w' :=
  (iapp_any l (by omega) n v w hR).mono fun e w' ⟨v', h1, h2, h3⟩ => ⟨_, v', rfl, by have := uv_length n; rw [List.length_append]; omega, h1, h2, h3⟩

theorem i_AppendBytes (v : Value) (l : List Int) (u : Value) (s : List Int) (w : World) (hR : Reads w.heap.size w v .u8 l) (_hB : ∀ z ∈ l, 0 ≤ z ∧ z ≤ 255) (hl : l.length ≤ 1048576) (hR' : Reads w.heap.size w u .u8 s) (_hB' : ∀ z ∈ s, 0 ≤ z ∧ z ≤ 255) (hl' : s.length ≤ 1048576) :
    Calls Try.prog 20 #[v, u] w fun e w' => ∃ L v', L = l ++ uv s.length ++ s ∧ L.length ≤ 16777216 ∧ e = .returned v' ∧ w'.ownsRow w.heap.size 5 1 v' L.length (L.map (Value.int .u8)) ∧ Below w.heap.size w w' :=
  (iab_any l s (by omega) (by omega) v u w hR hR').mono fun e w' ⟨v', h1, h2, h3⟩ => ⟨_, v', rfl, by have := uv_length s.length; rw [List.length_append, List.length_append]; omega, h1, h2, h3⟩

set_option maxHeartbeats 800000 in
theorem i_EncodeInts (v : Value) (l : List Int) (w : World) (hR : Reads w.heap.size w v .i64 l) (_hB : ∀ z ∈ l, -9223372036854775808 ≤ z ∧ z ≤ 9223372036854775807) (hl : l.length ≤ 1048576) :
    Calls Try.prog 23 #[v] w fun e w' => ∃ L v', L = encs l ∧ L.length ≤ 16777216 ∧ e = .returned v' ∧ w'.ownsRow w.heap.size 5 1 v' L.length (L.map (Value.int .u8)) ∧ Below w.heap.size w w' := by
  obtain ⟨-, a0, cap, rfl, -, hc⟩ := hR
  have HC := Lib.hid hc
  clear hc
  go_enter Try.func23, Try.ntmps23
  go_wp2
  go_loopw [3, 9] (fun o i wr => ∃ k : Nat, k ≤ l.length ∧ i = .int .i64 k ∧ wr.ownsRow w.heap.size 5 1 o (encs (l.take k)).length ((encs (l.take k)).map (Value.int .u8)) ∧ Below w.heap.size w wr) (fun _ i _ => l.length - (intOf i).toNat)
  case atStart => exact ⟨0, Nat.zero_le _, rfl, own_empty w _, (Below.refl _ _).alloc (Nat.le_refl _) _⟩
  case round =>
    obtain ⟨k, hk, rfl, ho, hbl⟩ := hrel
    by_cases hlt : k < l.length
    · obtain ⟨b, off, rfl, hb, hcell⟩ := HC.out k hlt
      obtain ⟨z, hz⟩ : ∃ z, z = l.getD k 0 := ⟨_, rfl⟩
      rw [← hz] at hcell
      have hc1 := (hbl.cell (p := ⟨b, off + k, none⟩) hb).trans hcell
      have HE : Hid (encs (l.take (k + 1)) = encs (l.take k) ++ uv z) := Lib.hid (by rw [hz]; exact encs_next l k hlt)
      have hlen : (encs (l.take k)).length ≤ 6291456 := by
        have := encs_length (l.take k)
        simp at this
        omega
      have HO := Lib.hid ho
      clear hcell hz ho
      go_wp2_with (go_at_call 45; refine (ag_any w.heap.size (encs (l.take k)) (by omega) z _ _ HO.out hbl.size).mono ?_; rintro e w2 ⟨v2, rfl, own2, b2⟩; have HO2 : Hid (w2.ownsRow w.heap.size 5 1 v2 (encs (l.take (k + 1))).length ((encs (l.take (k + 1))).map (Value.int .u8))) := Lib.hid (by rw [HE.out]; exact own2); clear own2)
      go_roundw
      case rel => exact ⟨k + 1, by omega, by go_num, HO2.out, hbl.trans b2⟩
      case measure => simp [intOf]; omega
    · have hk' : k = l.length := by omega
      have HO : Hid (wr.ownsRow w.heap.size 5 1 _ (encs l).length ((encs l).map (Value.int .u8))) := Lib.hid (by rw [hk', List.take_length] at ho; exact ho)
      clear ho hk'
      go_wp2
      go_ret
      exact ⟨_, _, rfl, by have := encs_length l; omega, rfl, HO.out, hbl⟩

theorem i_bytesEqual (v : Value) (l : List Int) (u : Value) (s : List Int) (w : World) (hR : Reads w.heap.size w v .u8 l) (hB : ∀ z ∈ l, 0 ≤ z ∧ z ≤ 255) (hR' : Reads w.heap.size w u .u8 s) (hB' : ∀ z ∈ s, 0 ≤ z ∧ z ≤ 255) :
    Calls Try.prog 55 #[v, u] w fun e w' => e = .returned (.bool (decide (l = s))) ∧ w = w' := by
  have hc1 := conv_reads hR
  have hc2 := conv_reads hR'
  have HE : Hid (((strOfNums l).toList == (strOfNums s).toList) = decide (l = s)) := Lib.hid (by
    rw [ByteArray.toList_eq, ByteArray.toList_eq, strOfNums_data, strOfNums_data]
    by_cases h : l = s
    · subst h; simp
    · rw [decide_eq_false h]
      exact beq_eq_false_iff_ne.2 (fun e => h (nums_inj hB hB' e)))
  obtain ⟨-, a0, cap, rfl, -, -⟩ := hR
  obtain ⟨-, a1, cap1, rfl, -, -⟩ := hR'
  clear hB hB'
  go_enter Try.func55, Try.ntmps55
  go_wp2
  go_ret
  exact ⟨by rw [← HE.out]; rfl, rfl⟩
theorem i_EqualBytes (v : Value) (l : List Int) (u : Value) (s : List Int) (w : World) (hR : Reads w.heap.size w v .u8 l) (hB : ∀ z ∈ l, 0 ≤ z ∧ z ≤ 255) (_hl : l.length ≤ 1048576) (hR' : Reads w.heap.size w u .u8 s) (hB' : ∀ z ∈ s, 0 ≤ z ∧ z ≤ 255) (_hl' : s.length ≤ 1048576) :
    Calls Try.prog 40 #[v, u] w fun e w' => ∃ r, r = decide (l = s) ∧ e = .returned (.bool r) ∧ Below w.heap.size w w' := by
  have HC := Lib.hid (i_bytesEqual v l u s w hR hB hR' hB')
  obtain ⟨-, a0, cap, rfl, -, -⟩ := hR
  obtain ⟨-, a1, cap1, rfl, -, -⟩ := hR'
  clear hB hB'
  go_enter Try.func40, Try.ntmps40
  go_wp2_with (go_at_call 55; refine HC.out.mono ?_; rintro e w2 ⟨rfl, rfl⟩)
  go_ret
  exact ⟨_, rfl, rfl, Below.refl _ _⟩
end Go.Proofs.Ytffjolonpkhmoaa
