/-
  Contracts of the model's functions of chapter 2 in the form that the exact laws' walks ask: s_F (the model's F), with the relation between arguments and results, and u_F: the relation fixes the results.
-/
import Derived.Test.YtffjolonpkhmoaaSpecBytes
import Derived.Test.YtffjolonpkhmoaaInts
import Derived.Laws.BytesArg
namespace Go.Proofs.Ytffjolonpkhmoaa
open Go.RowKit

theorem own_wide {W : World} {base base' n : Nat} {e : TypeId} {v : Value} {xs : List Value} (h : W.ownsRow base' e 1 v n xs) (hb : base ≤ base') : W.ownsRow base e 1 v n xs := by
  refine ⟨h.1, ?_⟩
  rcases h.2 with hn | ⟨g, cap, cur, rfl, hbg, rest⟩
  · exact .inl hn
  · exact .inr ⟨g, cap, cur, rfl, Nat.le_trans hb hbg, rest⟩

theorem u_AppendUvarint {l : List Int} {n : Int} {L L' : List Int} (h : L = l ++ uv n) (h' : L' = l ++ uv n) : L = L' := h.trans h'.symm
theorem s_AppendUvarint (v : Value) (l : List Int) (n : Int) (w : World) (hR : Reads w.heap.size w v .u8 l) (_hB : ∀ z ∈ l, 0 ≤ z ∧ z ≤ 255) (hl : l.length ≤ 1048576) (_lo : -9223372036854775808 ≤ n) (_hi : n ≤ 9223372036854775807) :
    Calls Try.prog 26 #[v, .int .i64 n] w fun e w' => ∃ L v', L = l ++ uv n ∧ L.length ≤ 16777216 ∧ e = .returned v' ∧ w'.ownsRow w.heap.size 5 1 v' L.length (L.map (Value.int .u8)) ∧ Below w.heap.size w w' :=
  (sapp_any l (by omega) n v w hR).mono fun e w' ⟨v', h1, h2, h3⟩ => ⟨_, v', rfl, by have := uv_length n; rw [List.length_append]; omega, h1, h2, h3⟩

theorem u_ReadUvarint {l : List Int} {a n next n' next' : Int} {ok ok' : Bool} (h : RdAns l a n next ok) (h' : RdAns l a n' next' ok') : n = n' ∧ next = next' ∧ ok = ok' := by
  obtain ⟨h1, h2, h3⟩ := rdans_unique h h'
  exact ⟨h1.symm, h2.symm, h3.symm⟩
theorem s_ReadUvarint (v : Value) (l : List Int) (n : Int) (w : World) (hR : Reads w.heap.size w v .u8 l) (hB : ∀ z ∈ l, 0 ≤ z ∧ z ≤ 255) (hl : l.length ≤ 1048576) (_lo : -9223372036854775808 ≤ n) (_hi : n ≤ 9223372036854775807) :
    Calls Try.prog 18 #[v, .int .i64 n] w (IR l n w) :=
  (sread_any l (by omega) hB n v _ w hR).mono fun e w' ⟨x, next, ok, h1, h2, h3⟩ => ⟨x, next, ok, h1, h2, by subst h3; exact Below.refl _ _⟩

theorem u_AppendBytes {l s : List Int} {L L' : List Int} (h : L = l ++ uv s.length ++ s) (h' : L' = l ++ uv s.length ++ s) : L = L' := h.trans h'.symm
theorem s_AppendBytes (v : Value) (l : List Int) (u : Value) (s : List Int) (w : World) (hR : Reads w.heap.size w v .u8 l) (_hB : ∀ z ∈ l, 0 ≤ z ∧ z ≤ 255) (hl : l.length ≤ 1048576) (hR' : Reads w.heap.size w u .u8 s) (_hB' : ∀ z ∈ s, 0 ≤ z ∧ z ≤ 255) (hl' : s.length ≤ 1048576) :
    Calls Try.prog 31 #[v, u] w fun e w' => ∃ L v', L = l ++ uv s.length ++ s ∧ L.length ≤ 16777216 ∧ e = .returned v' ∧ w'.ownsRow w.heap.size 5 1 v' L.length (L.map (Value.int .u8)) ∧ Below w.heap.size w w' :=
  (sab_any l s (by omega) (by omega) v u w hR hR').mono fun e w' ⟨v', h1, h2, h3⟩ => ⟨_, v', rfl, by have := uv_length s.length; rw [List.length_append, List.length_append]; omega, h1, h2, h3⟩

theorem u_ReadBytes {l : List Int} {a m nx nx' : Int} {L L' : List Int} {ok ok' : Bool} (h : RB l a m L nx ok) (h' : RB l a m L' nx' ok') : L = L' ∧ nx = nx' ∧ ok = ok' := by
  obtain ⟨h1, h2, h3⟩ := rb_unique h h'
  exact ⟨h1.symm, h2.symm, h3.symm⟩
theorem s_ReadBytes (v : Value) (l : List Int) (a m : Int) (w : World) (hR : Reads w.heap.size w v .u8 l) (hB : ∀ z ∈ l, 0 ≤ z ∧ z ≤ 255) (hl : l.length ≤ 1048576) (_lo : -9223372036854775808 ≤ a) (_hi : a ≤ 9223372036854775807) (_lo' : -9223372036854775808 ≤ m) (_hi' : m ≤ 9223372036854775807) :
    Calls Try.prog 32 #[v, .int .i64 a, .int .i64 m] w (RBOut l a m w) := srb_any l (by omega) hB a m v w hR

/-- The varints of a list of numbers, one behind the other. -/
def encs (l : List Int) : List Int := l.flatMap uv
theorem encs_snoc (l : List Int) (z : Int) : encs (l ++ [z]) = encs l ++ uv z := by simp [encs]
theorem encs_length : ∀ (l : List Int), (encs l).length ≤ 6 * l.length
  | [] => by simp [encs]
  | z :: l => by
    have h1 := encs_length l
    have h2 := uv_length z
    have e : encs (z :: l) = uv z ++ encs l := by simp [encs]
    rw [e, List.length_append, List.length_cons]
    omega
theorem u_EncodeInts {l L L' : List Int} (h : L = encs l) (h' : L' = encs l) : L = L' := h.trans h'.symm
theorem encs_next (l : List Int) (k : Nat) (h : k < l.length) : encs (l.take (k + 1)) = encs (l.take k) ++ uv (l.getD k 0) := by
  rw [List.take_succ_eq_append_getElem h, encs_snoc]
  simp [List.getD, h]

set_option maxHeartbeats 800000 in
theorem s_EncodeInts (v : Value) (l : List Int) (w : World) (hR : Reads w.heap.size w v .i64 l) (_hB : ∀ z ∈ l, -9223372036854775808 ≤ z ∧ z ≤ 9223372036854775807) (hl : l.length ≤ 1048576) :
    Calls Try.prog 33 #[v] w fun e w' => ∃ L v', L = encs l ∧ L.length ≤ 16777216 ∧ e = .returned v' ∧ w'.ownsRow w.heap.size 5 1 v' L.length (L.map (Value.int .u8)) ∧ Below w.heap.size w w' := by
  obtain ⟨-, a0, cap, rfl, -, hc⟩ := hR
  have HC := Lib.hid hc
  clear hc
  go_enter Try.func33, Try.ntmps33
  go_wp2
  go_loopw [3, 4] (fun o i wr => ∃ k : Nat, k ≤ l.length ∧ i = .int .i64 k ∧ wr.ownsRow w.heap.size 5 1 o (encs (l.take k)).length ((encs (l.take k)).map (Value.int .u8)) ∧ Below w.heap.size w wr) (fun _ i _ => l.length - (intOf i).toNat)
  case atStart => exact ⟨0, Nat.zero_le _, rfl, own_empty w _, (Below.refl _ _).alloc (Nat.le_refl _) _⟩
  case round =>
    obtain ⟨k, hk, rfl, ho, hbl⟩ := hrel
    by_cases hlt : k < l.length
    · obtain ⟨b, off, rfl, hb, hcell⟩ := HC.out k hlt
      obtain ⟨z, hz⟩ : ∃ z, z = l.getD k 0 := ⟨_, rfl⟩
      rw [← hz] at hcell
      have hc1 := (hbl.cell (p := ⟨b, off + k, none⟩) hb).trans hcell
      have HE : Hid (encs (l.take (k + 1)) = encs (l.take k) ++ uv z) := Lib.hid (by rw [hz]; exact encs_next l k hlt)
      have hlen : (encs (l.take k)).length ≤ 6291456 := by
        have := encs_length (l.take k)
        simp at this
        omega
      have HO := Lib.hid ho
      clear hcell hz ho
      go_wp2_with (go_at_call 26; refine (sapp_any (encs (l.take k)) (by omega) z _ _ (reads_own HO.out rfl (by omega))).mono ?_; rintro e w2 ⟨v2, rfl, own2, b2⟩; have HO2 : Hid (w2.ownsRow w.heap.size 5 1 v2 (encs (l.take (k + 1))).length ((encs (l.take (k + 1))).map (Value.int .u8))) := Lib.hid (by rw [HE.out]; exact own_wide own2 hbl.size); clear own2)
      go_roundw
      case rel => exact ⟨k + 1, by omega, by go_num, HO2.out, btrans hbl b2⟩
      case measure => simp [intOf]; omega
    · have hk' : k = l.length := by omega
      have HO : Hid (wr.ownsRow w.heap.size 5 1 _ (encs l).length ((encs l).map (Value.int .u8))) := Lib.hid (by rw [hk', List.take_length] at ho; exact ho)
      clear ho hk'
      go_wp2
      go_ret
      exact ⟨_, _, rfl, by have := encs_length l; omega, rfl, HO.out, hbl⟩

/-- k varints stand from offset a on, one behind the other: the numbers L; the last one ends before nx. -/
def DD (b : List Int) : Nat → Int → List Int → Int → Prop
  | 0, a, L, nx => L = [] ∧ nx = a
  | k + 1, a, L, nx => ∃ L1 mid x, DD b k a L1 mid ∧ RD b mid x nx ∧ L = L1 ++ [x]
theorem dd_unique {b : List Int} : ∀ (k : Nat) {a nx nx' : Int} {L L' : List Int}, DD b k a L nx → DD b k a L' nx' → L = L' ∧ nx = nx'
  | 0, _, _, _, _, _, ⟨h1, h2⟩, ⟨h3, h4⟩ => ⟨h1.trans h3.symm, h2.trans h4.symm⟩
  | k + 1, _, _, _, _, _, ⟨L1, mid, x, h1, h2, h3⟩, ⟨L2, mid2, y, k1, k2, k3⟩ => by
    obtain ⟨rfl, rfl⟩ := dd_unique k h1 k1
    obtain ⟨rfl, rfl⟩ := rd_unique h2 k2
    exact ⟨h3.trans k3.symm, rfl⟩
theorem dd_length {b : List Int} : ∀ (k : Nat) {a nx : Int} {L : List Int}, DD b k a L nx → L.length = k
  | 0, _, _, _, ⟨h1, _⟩ => by simp [h1]
  | k + 1, _, _, _, ⟨L1, _, _, h1, _, h3⟩ => by rw [h3, List.length_append, dd_length k h1]; rfl
theorem dd_prefix {b : List Int} {k : Nat} : ∀ (n : Nat) {a nx : Int} {L : List Int}, DD b n a L nx → k < n → ∃ L1 mid x nx', DD b k a L1 mid ∧ RD b mid x nx'
  | 0, _, _, _, _, h => absurd h (Nat.not_lt_zero _)
  | n + 1, _, nx, _, ⟨L1, mid, x, h1, h2, _⟩, hk => by
    by_cases e : k = n
    · subst e; exact ⟨L1, mid, x, nx, h1, h2⟩
    · exact dd_prefix n h1 (by omega)
/-- What DecodeInts answers. -/
def DIv (b : List Int) (a n : Int) (L : List Int) (nx : Int) (ok : Bool) : Prop :=
  (ok = true ∧ 0 ≤ n ∧ n ≤ 100 ∧ 0 ≤ a ∧ a ≤ b.length ∧ DD b n.toNat a L nx) ∨
  (ok = false ∧ L = [] ∧ nx = 0 ∧ (0 ≤ n → n ≤ 100 → 0 ≤ a → a ≤ b.length → ∀ L nx, ¬ DD b n.toNat a L nx))
theorem u_DecodeInts {b : List Int} {a n nx nx' : Int} {L L' : List Int} {ok ok' : Bool} (h : DIv b a n L nx ok) (h' : DIv b a n L' nx' ok') : L = L' ∧ nx = nx' ∧ ok = ok' := by
  rcases h with ⟨rfl, a1, a2, a3, a4, h⟩ | ⟨rfl, rfl, rfl, h⟩
  · rcases h' with ⟨rfl, _, _, _, _, h'⟩ | ⟨rfl, rfl, rfl, h'⟩
    · obtain ⟨h1, h2⟩ := dd_unique _ h h'
      exact ⟨h1, h2, rfl⟩
    · exact absurd h (h' a1 a2 a3 a4 _ _)
  · rcases h' with ⟨rfl, a1, a2, a3, a4, h'⟩ | ⟨rfl, rfl, rfl, h'⟩
    · exact absurd h' (h a1 a2 a3 a4 _ _)
    · exact ⟨rfl, rfl, rfl⟩
/-- What a reader of lists of integers leaves. -/
def DIOut (l : List Int) (a n : Int) (w : World) (e : Ending) (w' : World) : Prop :=
  ∃ L nx ok v', DIv l a n L nx ok ∧ L.length ≤ 16777216 ∧ e = .returned (.tuple #[v', .int .i64 nx, .bool ok]) ∧ w'.ownsRow w.heap.size 3 1 v' L.length (L.map (Value.int .i64)) ∧ Below w.heap.size w w'
theorem di_no {l : List Int} {a n : Int} {w w' : World} {e : Ending} {v : Value} (h : DIv l a n [] 0 false) (he : e = .returned (.tuple #[v, .int .i64 0, .bool false])) (ho : w'.ownsRow w.heap.size 3 1 v 0 []) (hb : Below w.heap.size w w') : DIOut l a n w e w' :=
  ⟨[], 0, false, v, h, by simp, he, ho, hb⟩

set_option maxHeartbeats 1600000 in
theorem s_DecodeInts (v : Value) (l : List Int) (a n : Int) (w : World) (hR : Reads w.heap.size w v .u8 l) (hB : ∀ z ∈ l, 0 ≤ z ∧ z ≤ 255) (hl : l.length ≤ 1048576) (_lo : -9223372036854775808 ≤ a) (_hi : a ≤ 9223372036854775807) (_lo' : -9223372036854775808 ≤ n) (_hi' : n ≤ 9223372036854775807) :
    Calls Try.prog 37 #[v, .int .i64 a, .int .i64 n] w (DIOut l a n w) := by
  obtain ⟨i0, hi, hz0, hz1, hz2⟩ := info_parts infoInt
  have HB := Lib.hid hB
  have HR := Lib.hid hR
  obtain ⟨-, a0, cap, rfl, -, -⟩ := hR
  clear hB
  by_cases hn : 0 ≤ n ∧ n ≤ 100
  · by_cases ha : 0 ≤ a ∧ a ≤ l.length
    · obtain ⟨N, rfl⟩ : ∃ N : Nat, n = (N : Int) := ⟨n.toNat, by omega⟩
      obtain ⟨hn0, hn1⟩ := hn
      obtain ⟨ha0, ha1⟩ := ha
      go_enter Try.func37, Try.ntmps37
      go_wp2_with (go_at_call 54; refine (lin_yes _ _ _ (by omega) (by omega) _).mono ?_; rintro e w2 ⟨rfl, rfl⟩)
      go_loopw [1, 9, 10] (fun av o i wr => ∃ (k : Nat) (L : List Int) (mid : Int), k ≤ N ∧ i = .int .i64 k ∧ av = .int .i64 mid ∧ Hid (DD l k a L mid) ∧ wr.ownsRow w.heap.size 3 1 o L.length (L.map (Value.int .i64)) ∧ Below w.heap.size w wr) (fun _ _ i _ => N - (intOf i).toNat)
      case atStart => exact ⟨0, [], a, Nat.zero_le _, rfl, rfl, Lib.hid ⟨rfl, rfl⟩, own_empty w _, (Below.refl _ _).alloc (Nat.le_refl _) _⟩
      case round =>
        obtain ⟨k, L, mid, hk, rfl, rfl, HD, ho, hbl⟩ := hrel
        by_cases hlt : k < N
        · have hL := dd_length k HD.out
          have hs := hbl.size
          have HO := Lib.hid ho
          clear ho
          go_wp2_with (first | (go_at_call 18; refine (sread_any l (by omega) HB.out mid _ _ _ (HR.out.now hbl)).mono ?_; rintro e w1 ⟨x, next, ok, HA, rfl, rfl⟩) | (at_builtin; refine append_reads _ rfl _ _ 35 rfl w.heap.size 3 i0 (.int .i64 0) 8 Try.underlying35 hi hz0 hz1 hz2 rfl _ _ _ rfl (HO.out.alloc _) (some ⟨wr.heap.size, 0, none⟩) 1 1 .i64 [_] rfl rfl (fun e => by cases e) (one_src wr _ .i64 _) (by omega) (by omega) (by simp; omega) ?_; intro v2 w2 hown2 hgrow2))
          · have HN : Hid (DIv l a N [] 0 false ∧ x = 0) := Lib.hid (by
              rcases HA with ⟨rfl, _⟩ | ⟨rfl, rfl, rfl, hno⟩
              · exact absurd ‹(!true) = true› (by decide)
              · refine ⟨Or.inr ⟨rfl, rfl, rfl, fun _ _ _ _ L' nx' hd => ?_⟩, rfl⟩
                rw [Int.toNat_natCast] at hd
                obtain ⟨L1, mid', x', nx2, h1, h2⟩ := dd_prefix N hd hlt
                obtain ⟨rfl, rfl⟩ := dd_unique _ HD.out h1
                exact hno _ _ h2)
            exact bodyPost_ret (v := .tuple #[.slice (some ⟨wr.heap.size, 0, none⟩) 0 0, .int .i64 0, .bool false]) (by simp [results, Try.results37, go_sem]) rfl (di_no HN.out.1 rfl (own_wide (own_empty wr _) hs) (hbl.alloc hs _))
          · have HN : Hid (DD l (k + 1) a (L ++ [x]) next) := Lib.hid (by
              rcases HA with ⟨rfl, hrd⟩ | ⟨rfl, _⟩
              · exact ⟨L, mid, x, HD.out, hrd, rfl⟩
              · exact absurd ‹(!false) = false› (by decide))
            have HO2 : Hid (w2.ownsRow w.heap.size 3 1 v2 (L ++ [x]).length ((L ++ [x]).map (Value.int .i64))) := Lib.hid (by simpa using hown2)
            have HB2 := Lib.hid (below_own (hbl.alloc hs _) hgrow2 (HO.out.alloc _) (Nat.le_refl _) (by simp; omega))
            clear hown2 hgrow2 HA
            go_roundw
            case rel => exact ⟨k + 1, L ++ [x], next, by omega, by go_num, rfl, HN, HO2.out, HB2.out⟩
            case measure => simp [intOf]; omega
        · have hk' : k = N := by omega
          have HN : Hid (DIv l a N L mid true) := Lib.hid (Or.inl ⟨rfl, hn0, hn1, ha0, ha1, by rw [Int.toNat_natCast, ← hk']; exact HD.out⟩)
          have hL := dd_length k HD.out
          have HO := Lib.hid ho
          clear ho
          go_wp2
          exact bodyPost_ret (v := .tuple #[_, .int .i64 mid, .bool true]) (by simp [results, Try.results37, go_sem]) rfl ⟨L, mid, true, _, HN.out, by omega, rfl, HO.out, hbl⟩
    · have HA := Lib.hid ha
      have HN : Hid (DIv l a n [] 0 false) := Lib.hid (Or.inr ⟨rfl, rfl, rfl, fun _ _ h1 h2 => absurd ⟨h1, h2⟩ ha⟩)
      obtain ⟨hn0, hn1⟩ := hn
      clear ha
      go_enter Try.func37, Try.ntmps37
      go_wp2_with (go_at_call 54; first | (refine (lin_yes _ _ _ (by omega) (by omega) _).mono ?_; rintro e w2 ⟨rfl, rfl⟩) | (refine (lin_no _ _ _ HA.out _).mono ?_; rintro e w2 ⟨rfl, rfl⟩))
      exact bodyPost_ret (v := .tuple #[.slice (some ⟨w.heap.size, 0, none⟩) 0 0, .int .i64 0, .bool false]) (by simp [results, Try.results37, go_sem]) rfl (di_no HN.out rfl (own_empty w _) ((Below.refl _ _).alloc (Nat.le_refl _) _))
  · have HA := Lib.hid hn
    have HN : Hid (DIv l a n [] 0 false) := Lib.hid (Or.inr ⟨rfl, rfl, rfl, fun h1 h2 => absurd ⟨h1, h2⟩ hn⟩)
    clear hn
    go_enter Try.func37, Try.ntmps37
    go_wp2_with (go_at_call 54; refine (lin_no _ _ _ HA.out _).mono ?_; rintro e w2 ⟨rfl, rfl⟩)
    exact bodyPost_ret (v := .tuple #[.slice (some ⟨w.heap.size, 0, none⟩) 0 0, .int .i64 0, .bool false]) (by simp [results, Try.results37, go_sem]) rfl (di_no HN.out rfl (own_empty w _) ((Below.refl _ _).alloc (Nat.le_refl _) _))

theorem conv_reads {B : Nat} {W : World} {v : Value} {l : List Int} (h : Reads B W v .u8 l) : (convert 22 9 v).run Try.prog W = .ok (.string (strOfNums l)) W := by
  obtain ⟨-, a0, cap, rfl, hcap, hc⟩ := h
  cases a0 with
  | none =>
    have hl : l = [] := by
      rcases Nat.eq_zero_or_pos l.length with h0 | h0
      · exact List.length_eq_zero_iff.1 h0
      · obtain ⟨b, off, e1, _⟩ := hc 0 h0
        cases e1
    subst hl
    exact run_convert_bytes_nil W 22 5 Try.underlying22 Try.underlying5 _ _ 9 Try.underlying9
  | some ad =>
    have hl : (loadCells ad l.length).run Try.prog W = .ok (l.map (Value.int .u8)).toArray W := by
      have := run_loadCells_list (P := Try.prog) W ad (l.map (Value.int .u8)) (fun j u hu => by
        have hj : j < l.length := by
          have := (List.getElem?_eq_some_iff.1 hu).1
          simpa using this
        obtain ⟨b, off, e1, _, e2⟩ := hc j hj
        cases e1
        have e3 : (⟨b, off, none⟩ : Addr).add j = ⟨b, off + j, none⟩ := by unfold Addr.add; split <;> simp_all
        rw [e3, e2]
        simpa [List.getD, hj] using hu)
      simpa using this
    rw [run_convert_bytes_string W 22 9 5 _ _ _ Try.underlying22 Try.underlying5 Try.underlying9, run_bytesToString W _ _ _ l hl, foldl_push_bytes]
    simp [strOfNums, ByteArray.empty, ByteArray.emptyWithCapacity]
    rfl
theorem nums_inj : ∀ {a b : List Int}, (∀ z ∈ a, 0 ≤ z ∧ z ≤ 255) → (∀ z ∈ b, 0 ≤ z ∧ z ≤ 255) → a.map (fun n => UInt8.ofNat n.toNat) = b.map (fun n => UInt8.ofNat n.toNat) → a = b := by
  intro a b ha hb h1
  induction a generalizing b with
  | nil => cases b with
    | nil => rfl
    | cons y b => simp at h1
  | cons x a ih => cases b with
    | nil => simp at h1
    | cons y b =>
      simp only [List.map_cons, List.cons.injEq] at h1
      obtain ⟨e1, e2⟩ := h1
      rw [ih (fun z hz => ha z (List.mem_cons_of_mem _ hz)) (fun z hz => hb z (List.mem_cons_of_mem _ hz)) e2]
      have hx := ha x (List.mem_cons_self ..)
      have hy := hb y (List.mem_cons_self ..)
      have e3 := congrArg UInt8.toNat e1
      simp only [UInt8.toNat_ofNat'] at e3
      rw [Nat.mod_eq_of_lt (by omega), Nat.mod_eq_of_lt (by omega)] at e3
      have : x = y := by omega
      rw [this]
theorem u_EqualBytes {a b : List Int} {x y : Bool} (h : x = decide (a = b)) (h' : y = decide (a = b)) : x = y := h.trans h'.symm
theorem s_EqualBytes (v : Value) (l : List Int) (u : Value) (s : List Int) (w : World) (hR : Reads w.heap.size w v .u8 l) (hB : ∀ z ∈ l, 0 ≤ z ∧ z ≤ 255) (_hl : l.length ≤ 1048576) (hR' : Reads w.heap.size w u .u8 s) (hB' : ∀ z ∈ s, 0 ≤ z ∧ z ≤ 255) (_hl' : s.length ≤ 1048576) :
    Calls Try.prog 39 #[v, u] w fun e w' => ∃ r, r = decide (l = s) ∧ e = .returned (.bool r) ∧ Below w.heap.size w w' := by
  have hc1 := conv_reads hR
  have hc2 := conv_reads hR'
  have HE : Hid (((strOfNums l).toList == (strOfNums s).toList) = decide (l = s)) := Lib.hid (by
    rw [ByteArray.toList_eq, ByteArray.toList_eq, strOfNums_data, strOfNums_data]
    by_cases h : l = s
    · subst h; simp
    · rw [decide_eq_false h]
      exact beq_eq_false_iff_ne.2 (fun e => h (nums_inj hB hB' e)))
  obtain ⟨-, a0, cap, rfl, -, -⟩ := hR
  obtain ⟨-, a1, cap1, rfl, -, -⟩ := hR'
  clear hB hB'
  go_enter Try.func39, Try.ntmps39
  go_wp2
  go_ret
  exact ⟨_, HE.out, rfl, Below.refl _ _⟩
end Go.Proofs.Ytffjolonpkhmoaa
