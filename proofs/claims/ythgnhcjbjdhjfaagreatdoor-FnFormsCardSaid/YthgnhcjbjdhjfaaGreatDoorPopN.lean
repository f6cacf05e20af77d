/-
  The number of bits of a word (the library's OnesCount64); the program's contract of CheckedShare.
-/
import Derived.Test.YthgnhcjbjdhjfaaGreatDoorCrossImplC
import Derived.Test.YthgnhcjbjdhjfaaGreatDoorKit
import Derived.Test.YthgnhcjbjdhjfaaGreatDoorGridB
import Derived.Deep.RegionWith
namespace Go.Proofs.YthgnhcjbjdhjfaaGreatDoor
open Go.RowKit

/-- A mask of one byte, n times over. -/
def mkPM (m : Nat) : Nat → Nat
  | 0 => 0
  | n + 1 => m + 256 * mkPM m n
theorem popAnd (a b x y : Nat) (ha : a < 256) (hb : b < 256) : (a + 256 * x) &&& (b + 256 * y) = (a &&& b) + 256 * (x &&& y) := by
  have h := Nat.div_add_mod ((a + 256 * x) &&& (b + 256 * y)) 256
  have e1 : ((a + 256 * x) &&& (b + 256 * y)) % 256 = a &&& b := by
    have := Nat.and_mod_two_pow (a := a + 256 * x) (b := b + 256 * y) (n := 8)
    rw [show (2:Nat)^8 = 256 from rfl] at this
    rw [this]
    congr 1 <;> omega
  have e2 : ((a + 256 * x) &&& (b + 256 * y)) / 256 = x &&& y := by
    have := Nat.and_div_two_pow (a := a + 256 * x) (b := b + 256 * y) (n := 8)
    rw [show (2:Nat)^8 = 256 from rfl] at this
    rw [this]
    congr 1 <;> omega
  omega
def pcP1 (b : Nat) : Nat := ((b / 2) &&& 0x55) + (b &&& 0x55)
def pcP2 (b : Nat) : Nat := ((b / 4) &&& 0x33) + (b &&& 0x33)
def pcP3 (b : Nat) : Nat := (b / 16 + b) &&& 0x0f
def pcA1 (n x : Nat) : Nat := ((x / 2) &&& mkPM 0x55 n) + (x &&& mkPM 0x55 n)
def pcA2 (n x : Nat) : Nat := ((x / 4) &&& mkPM 0x33 n) + (x &&& mkPM 0x33 n)
def pcA3 (n x : Nat) : Nat := (x / 16 + x) &&& mkPM 0x0f n
theorem pcLow1 : ∀ (b : Fin 256) (y : Fin 2), (b.val / 2 + 128 * y.val) &&& 0x55 = (b.val / 2) &&& 0x55 := by decide +kernel
theorem pcLow2 : ∀ (b : Fin 256) (y : Fin 4), (b.val / 4 + 64 * y.val) &&& 0x33 = (b.val / 4) &&& 0x33 := by decide +kernel
theorem popA1_step (n b y : Nat) (hb : b < 256) : pcA1 (n + 1) (b + 256 * y) = pcP1 b + 256 * pcA1 n y := by
  unfold pcA1 pcP1
  rw [show mkPM 0x55 (n + 1) = 0x55 + 256 * mkPM 0x55 n from rfl]
  have e : (b + 256 * y) / 2 = (b / 2 + 128 * (y % 2)) + 256 * (y / 2) := by omega
  rw [e, popAnd _ _ _ _ (by omega) (by omega), popAnd _ _ _ _ hb (by omega)]
  have h := pcLow1 ⟨b, hb⟩ ⟨y % 2, by omega⟩
  simp only at h
  rw [h]
  omega
theorem popA2_step (n b y : Nat) (hb : b < 256) : pcA2 (n + 1) (b + 256 * y) = pcP2 b + 256 * pcA2 n y := by
  unfold pcA2 pcP2
  rw [show mkPM 0x33 (n + 1) = 0x33 + 256 * mkPM 0x33 n from rfl]
  have e : (b + 256 * y) / 4 = (b / 4 + 64 * (y % 4)) + 256 * (y / 4) := by omega
  rw [e, popAnd _ _ _ _ (by omega) (by omega), popAnd _ _ _ _ hb (by omega)]
  have h := pcLow2 ⟨b, hb⟩ ⟨y % 4, by omega⟩
  simp only at h
  rw [h]
  omega
theorem pcP1_lt : ∀ b : Fin 256, pcP1 b.val < 256 := by decide +kernel
theorem pcP2_lt : ∀ b : Fin 256, pcP2 (pcP1 b.val) ≤ 0x44 ∧ pcP2 (pcP1 b.val) % 16 ≤ 4 := by decide +kernel
theorem pcLow3 : ∀ (b : Fin 256) (y : Fin 5), (pcP2 (pcP1 b.val) / 16 + 16 * y.val + pcP2 (pcP1 b.val)) &&& 0x0f = pcP3 (pcP2 (pcP1 b.val)) := by decide +kernel
def pval : List Nat → Nat
  | [] => 0
  | b :: l => b + 256 *  pval l
theorem popA1_val : ∀ (l : List Nat), (∀ b ∈ l, b < 256) → pcA1 l.length (pval l) = pval (l.map pcP1)
  | [], _ => rfl
  | b :: l, h => by
    simp only [List.length_cons, pval, List.map_cons]
    rw [popA1_step _ _ _ (h b (by simp)), popA1_val l (fun c hc => h c (by simp [hc]))]
theorem popA2_val : ∀ (l : List Nat), (∀ b ∈ l, b < 256) → pcA2 l.length (pval l) = pval (l.map pcP2)
  | [], _ => rfl
  | b :: l, h => by
    simp only [List.length_cons, pval, List.map_cons]
    rw [popA2_step _ _ _ (h b (by simp)), popA2_val l (fun c hc => h c (by simp [hc]))]
theorem pval_low : ∀ (l : List Nat), (∀ b ∈ l, b < 256) → pval (l.map fun b => pcP2 (pcP1 b)) % 16 ≤ 4
  | [], _ => by simp [pval]
  | b :: l, h => by
    simp only [List.map_cons, pval]
    have := (pcP2_lt ⟨b, h b (by simp)⟩).2
    simp only at this
    omega
theorem popA3_val : ∀ (l : List Nat), (∀ b ∈ l, b < 256) → pcA3 l.length (pval (l.map fun b => pcP2 (pcP1 b))) = pval (l.map fun b => pcP3 (pcP2 (pcP1 b)))
  | [], _ => rfl
  | b :: l, h => by
    have ih := popA3_val l (fun c hc => h c (by simp [hc]))
    have hl := pval_low l (fun c hc => h c (by simp [hc]))
    have hb := pcP2_lt ⟨b, h b (by simp)⟩
    have h3 := pcLow3 ⟨b, h b (by simp)⟩
    simp only at hb h3
    simp only [List.length_cons, List.map_cons, pval]
    obtain ⟨y, hy⟩ : ∃ y, y = pval (l.map fun b => pcP2 (pcP1 b)) := ⟨_, rfl⟩
    obtain ⟨c, hc⟩ : ∃ c, c = pcP2 (pcP1 b) := ⟨_, rfl⟩
    rw [← hy] at ih hl ⊢
    rw [← hc] at hb h3 ⊢
    unfold pcA3 at ih ⊢
    have h4 := h3 ⟨y % 16, by omega⟩
    simp only at h4
    have e : (c + 256 * y) / 16 + (c + 256 * y) = (c / 16 + 16 * (y % 16) + c) + 256 * (y / 16 + y) := by omega
    rw [e]
    show _ &&& (15 + 256 * mkPM 15 l.length) = _
    rw [popAnd _ _ _ _ (by omega) (by omega), h4, ih]
/-- The bits of a byte. -/
def pcPop8 (b : Nat) : Nat := ((List.range 8).filter fun i => b.testBit i).length
theorem pcP_all : ∀ b : Fin 256, pcP3 (pcP2 (pcP1 b.val)) = pcPop8 b.val ∧ pcPop8 b.val ≤ 8 := by decide +kernel

theorem pval_lt : ∀ (l : List Nat) (k : Nat), k < 256 → (∀ b ∈ l, b ≤ k) → 255 * pval l ≤ k * (256 ^ l.length - 1)
  | [], k, _, _ => by simp [pval]
  | b :: l, k, hk, h => by
    have ih := pval_lt l k hk (fun c hc => h c (by simp [hc]))
    have hb := h b (by simp)
    simp only [pval, List.length_cons]
    have e : 256 ^ (l.length + 1) = 256 * 256 ^ l.length := by rw [Nat.pow_succ, Nat.mul_comm]
    have hp : 1 ≤ 256 ^ l.length := Nat.pow_pos (by decide)
    obtain ⟨q, hq⟩ : ∃ q, 256 ^ l.length = q + 1 := ⟨256 ^ l.length - 1, by omega⟩
    rw [e, hq]
    rw [hq] at ih
    have e2 : k * (256 * (q + 1) - 1) = 256 * (k * (q + 1 - 1)) + 255 * k := by
      rw [show 256 * (q + 1) - 1 = 256 * q + 255 by omega, Nat.mul_add, show q + 1 - 1 = q by omega]
      rw [Nat.mul_left_comm, Nat.mul_comm k 255]
    rw [e2]
    omega
/-- The eight bytes of a word. -/
def byt (S : Nat) : List Nat := (List.range 8).map fun i => S / 256 ^ i % 256
theorem byt_val (S : Nat) (h : S < 18446744073709551616) : pval (byt S) = S := by
  simp [byt, List.range_succ, pval]
  omega
theorem byt_lt (S : Nat) : ∀ b ∈ byt S, b < 256 := by
  intro b hb
  obtain ⟨i, -, rfl⟩ := List.mem_map.1 hb
  exact Nat.mod_lt _ (by decide)
def pw1 (x : Int) : Int := IntKind.u64.wrap (bits .and .u64 (x / 2) 6148914691236517205 + bits .and .u64 x 6148914691236517205)
def pw2 (x : Int) : Int := IntKind.u64.wrap (bits .and .u64 (x / 4) 3689348814741910323 + bits .and .u64 x 3689348814741910323)
def pw3 (x : Int) : Int := bits .and .u64 (IntKind.u64.wrap (x / 16 + x)) 1085102592571150095
def pw4 (x : Int) : Int := IntKind.u64.wrap (x + x / 256)
def pw5 (x : Int) : Int := IntKind.u64.wrap (x + x / 65536)
def pw6 (x : Int) : Int := IntKind.u64.wrap (x + x / 4294967296)
/-- What the library's OnesCount64 reckons. -/
def pwE (x : Int) : Int := bits .and .i64 (wrap64 (pw6 (pw5 (pw4 (pw3 (pw2 (pw1 x))))))) 127
theorem pcw1 (x : Nat) (hx : x < 18446744073709551616) (h : pcA1 8 x < 18446744073709551616) : pw1 (x : Int) = ((pcA1 8 x : Nat) : Int) := by
  unfold pw1
  have e : pcA1 8 x = (x / 2 &&& 6148914691236517205) + (x &&& 6148914691236517205) := rfl
  rw [e] at h ⊢
  rw [show (x : Int) / 2 = ((x / 2 : Nat) : Int) by simp, show (6148914691236517205 : Int) = ((6148914691236517205 : Nat) : Int) from rfl, bits_and_u64_nat _ _ (by omega) (by decide), bits_and_u64_nat _ _ hx (by decide), IntKind.wrap_u64]
  omega
theorem pcw2 (x : Nat) (hx : x < 18446744073709551616) (h : pcA2 8 x < 18446744073709551616) : pw2 (x : Int) = ((pcA2 8 x : Nat) : Int) := by
  unfold pw2
  have e : pcA2 8 x = (x / 4 &&& 3689348814741910323) + (x &&& 3689348814741910323) := rfl
  rw [e] at h ⊢
  rw [show (x : Int) / 4 = ((x / 4 : Nat) : Int) by simp, show (3689348814741910323 : Int) = ((3689348814741910323 : Nat) : Int) from rfl, bits_and_u64_nat _ _ (by omega) (by decide), bits_and_u64_nat _ _ hx (by decide), IntKind.wrap_u64]
  omega
theorem pcw3 (x : Nat) (h : x / 16 + x < 18446744073709551616) : pw3 (x : Int) = ((pcA3 8 x : Nat) : Int) := by
  unfold pw3
  have e : pcA3 8 x = (x / 16 + x) &&& 1085102592571150095 := rfl
  rw [e]
  rw [show (x : Int) / 16 + x = ((x / 16 + x : Nat) : Int) by simp, IntKind.wrap_u64, show ((x / 16 + x : Nat) : Int) % 18446744073709551616 = ((x / 16 + x : Nat) : Int) by omega, show (1085102592571150095 : Int) = ((1085102592571150095 : Nat) : Int) from rfl, bits_and_u64_nat _ _ h (by decide)]
theorem edv (a b m : Int) (hm : 0 < m) (h0 : 0 ≤ a) (h1 : a < m) : (a + m * b) / m = b := by
  rw [Int.add_mul_ediv_left _ _ (by omega), Int.ediv_eq_zero_of_lt h0 h1, Int.zero_add]
theorem pc_sum (q0 q1 q2 q3 q4 q5 q6 q7 : Nat) (h0 : q0 ≤ 8) (h1 : q1 ≤ 8) (h2 : q2 ≤ 8) (h3 : q3 ≤ 8) (h4 : q4 ≤ 8) (h5 : q5 ≤ 8) (h6 : q6 ≤ 8) (h7 : q7 ≤ 8) :
    pw6 (pw5 (pw4 ((pval [q0, q1, q2, q3, q4, q5, q6, q7] : Nat) : Int))) % 256 = ((q0 + q1 + q2 + q3 + q4 + q5 + q6 + q7 : Nat) : Int) ∧ 0 ≤ pw6 (pw5 (pw4 ((pval [q0, q1, q2, q3, q4, q5, q6, q7] : Nat) : Int))) ∧ pw6 (pw5 (pw4 ((pval [q0, q1, q2, q3, q4, q5, q6, q7] : Nat) : Int))) < 9223372036854775808 := by
  have e0 : ((pval [q0, q1, q2, q3, q4, q5, q6, q7] : Nat) : Int) = (q0 : Int) + 256 * q1 + 65536 * q2 + 16777216 * q3 + 4294967296 * q4 + 1099511627776 * q5 + 281474976710656 * q6 + 72057594037927936 * q7 := by
    simp [pval]
    omega
  rw [e0]
  have e1 : pw4 ((q0 : Int) + 256 * q1 + 65536 * q2 + 16777216 * q3 + 4294967296 * q4 + 1099511627776 * q5 + 281474976710656 * q6 + 72057594037927936 * q7) = ((q0 : Int) + q1) + 256 * (q1 + q2) + 65536 * (q2 + q3) + 16777216 * (q3 + q4) + 4294967296 * (q4 + q5) + 1099511627776 * (q5 + q6) + 281474976710656 * (q6 + q7) + 72057594037927936 * q7 := by
    unfold pw4
    rw [IntKind.wrap_u64]
    omega
  rw [e1]
  have e2 : pw5 (((q0 : Int) + q1) + 256 * (q1 + q2) + 65536 * (q2 + q3) + 16777216 * (q3 + q4) + 4294967296 * (q4 + q5) + 1099511627776 * (q5 + q6) + 281474976710656 * (q6 + q7) + 72057594037927936 * q7) = ((q0 : Int) + q1 + q2 + q3) + 256 * (q1 + q2 + q3 + q4) + 65536 * (q2 + q3 + q4 + q5) + 16777216 * (q3 + q4 + q5 + q6) + 4294967296 * (q4 + q5 + q6 + q7) + 1099511627776 * (q5 + q6 + q7) + 281474976710656 * (q6 + q7) + 72057594037927936 * q7 := by
    have hd := edv (((q0 : Int) + q1) + 256 * (q1 + q2)) (((q2 : Int) + q3) + 256 * (q3 + q4) + 65536 * (q4 + q5) + 16777216 * (q5 + q6) + 4294967296 * (q6 + q7) + 1099511627776 * q7) 65536 (by omega) (by omega) (by omega)
    rw [show ((q0 : Int) + q1) + 256 * (q1 + q2) + 65536 * (((q2 : Int) + q3) + 256 * (q3 + q4) + 65536 * (q4 + q5) + 16777216 * (q5 + q6) + 4294967296 * (q6 + q7) + 1099511627776 * q7) = ((q0 : Int) + q1) + 256 * (q1 + q2) + 65536 * (q2 + q3) + 16777216 * (q3 + q4) + 4294967296 * (q4 + q5) + 1099511627776 * (q5 + q6) + 281474976710656 * (q6 + q7) + 72057594037927936 * q7 by omega] at hd
    unfold pw5
    rw [hd, IntKind.wrap_u64, Int.emod_eq_of_lt (by omega) (by omega)]
    omega
  rw [e2]
  have e3 : pw6 (((q0 : Int) + q1 + q2 + q3) + 256 * (q1 + q2 + q3 + q4) + 65536 * (q2 + q3 + q4 + q5) + 16777216 * (q3 + q4 + q5 + q6) + 4294967296 * (q4 + q5 + q6 + q7) + 1099511627776 * (q5 + q6 + q7) + 281474976710656 * (q6 + q7) + 72057594037927936 * q7) = ((q0 : Int) + q1 + q2 + q3 + q4 + q5 + q6 + q7) + 256 * (q1 + q2 + q3 + q4 + q5 + q6 + q7) + 65536 * (q2 + q3 + q4 + q5 + q6 + q7) + 16777216 * (q3 + q4 + q5 + q6 + q7) + 4294967296 * (q4 + q5 + q6 + q7) + 1099511627776 * (q5 + q6 + q7) + 281474976710656 * (q6 + q7) + 72057594037927936 * q7 := by
    have hd := edv (((q0 : Int) + q1 + q2 + q3) + 256 * (q1 + q2 + q3 + q4) + 65536 * (q2 + q3 + q4 + q5) + 16777216 * (q3 + q4 + q5 + q6)) (((q4 : Int) + q5 + q6 + q7) + 256 * (q5 + q6 + q7) + 65536 * (q6 + q7) + 16777216 * q7) 4294967296 (by omega) (by omega) (by omega)
    rw [show ((q0 : Int) + q1 + q2 + q3) + 256 * (q1 + q2 + q3 + q4) + 65536 * (q2 + q3 + q4 + q5) + 16777216 * (q3 + q4 + q5 + q6) + 4294967296 * (((q4 : Int) + q5 + q6 + q7) + 256 * (q5 + q6 + q7) + 65536 * (q6 + q7) + 16777216 * q7) = ((q0 : Int) + q1 + q2 + q3) + 256 * (q1 + q2 + q3 + q4) + 65536 * (q2 + q3 + q4 + q5) + 16777216 * (q3 + q4 + q5 + q6) + 4294967296 * (q4 + q5 + q6 + q7) + 1099511627776 * (q5 + q6 + q7) + 281474976710656 * (q6 + q7) + 72057594037927936 * q7 by omega] at hd
    unfold pw6
    rw [hd, IntKind.wrap_u64, Int.emod_eq_of_lt (by omega) (by omega)]
    omega
  rw [e3]
  refine ⟨?_, ?_, ?_⟩ <;> omega
theorem and127 (y : Int) (h0 : 0 ≤ y) (h1 : y < 9223372036854775808) (t : Nat) (ht : t < 128) (hm : y % 256 = (t : Int)) : bits .and .i64 (wrap64 y) 127 = (t : Int) := by
  obtain ⟨n, rfl⟩ : ∃ n : Nat, y = n := ⟨y.toNat, by omega⟩
  have e0 : wrap64 (n : Int) = n := by unfold wrap64; omega
  rw [e0]
  have hn : n % 128 = t := by omega
  have hb : (BitVec.ofInt 64 (n : Int) &&& BitVec.ofInt 64 127).toNat = t := by
    rw [BitVec.toNat_and]
    have e1 : (BitVec.ofInt 64 (n : Int)).toNat = n := by
      rw [show BitVec.ofInt 64 (n : Int) = BitVec.ofNat 64 n from BitVec.ofInt_natCast .., BitVec.toNat_ofNat]
      omega
    rw [e1]
    show n &&& 127 = t
    rw [show (127 : Nat) = 2 ^ 7 - 1 from rfl, Nat.and_two_pow_sub_one_eq_mod]
    exact hn
  unfold bits
  show IntKind.i64.wrap (((BitVec.ofInt 64 (n : Int) &&& BitVec.ofInt 64 127).toNat : Nat) : Int) = _
  rw [hb, IntKind.wrap_i64]
  omega
def popN (S : Nat) : Nat := ((byt S).map pcPop8).sum
theorem pwE_is (S : Nat) (hS : S < 18446744073709551616) : pwE (S : Int) = ((popN S : Nat) : Int) := by
  have hb := byt_lt S
  have hv := byt_val S hS
  have hl : (byt S).length = 8 := rfl
  have h1 : pcA1 8 S = pval ((byt S).map pcP1) := by
    have h := popA1_val (byt S) hb
    rwa [hl, hv] at h
  have hb1 : ∀ b ∈ (byt S).map pcP1, b < 256 := by
    intro b h
    obtain ⟨x, hx, rfl⟩ := List.mem_map.1 h
    exact pcP1_lt ⟨x, hb x hx⟩
  have h2 : pcA2 8 (pval ((byt S).map pcP1)) = pval ((byt S).map fun b => pcP2 (pcP1 b)) := by
    have h := popA2_val ((byt S).map pcP1) hb1
    rw [List.length_map, hl, List.map_map] at h
    exact h
  have h3 : pcA3 8 (pval ((byt S).map fun b => pcP2 (pcP1 b))) = pval ((byt S).map fun b => pcP3 (pcP2 (pcP1 b))) := by
    have h := popA3_val (byt S) hb
    rwa [hl] at h
  have hp : ((byt S).map fun b => pcP3 (pcP2 (pcP1 b))) = (byt S).map pcPop8 := List.map_congr_left fun b h => (pcP_all ⟨b, hb b h⟩).1
  have l1 := pval_lt ((byt S).map pcP1) 255 (by decide) (fun b h => by have := hb1 b h; omega)
  have l2 := pval_lt ((byt S).map fun b => pcP2 (pcP1 b)) 68 (by decide) (fun b h => by
    obtain ⟨x, hx, rfl⟩ := List.mem_map.1 h
    exact (pcP2_lt ⟨x, hb x hx⟩).1)
  rw [List.length_map, hl] at l1 l2
  unfold pwE
  rw [pcw1 S hS (by rw [h1]; omega), h1, pcw2 _ (by omega) (by rw [h2]; omega), h2, pcw3 _ (by omega), h3, hp]
  have hq : ∀ b ∈ byt S, pcPop8 b ≤ 8 := fun b h => (pcP_all ⟨b, hb b h⟩).2
  unfold popN
  revert hq
  generalize byt S = L at hl
  intro hq
  match L, hl with
  | [a0, a1, a2, a3, a4, a5, a6, a7], _ =>
    have g := fun b h => hq b h
    obtain ⟨s1, s2, s3⟩ := pc_sum (pcPop8 a0) (pcPop8 a1) (pcPop8 a2) (pcPop8 a3) (pcPop8 a4) (pcPop8 a5) (pcPop8 a6) (pcPop8 a7) (g a0 (by simp)) (g a1 (by simp)) (g a2 (by simp)) (g a3 (by simp)) (g a4 (by simp)) (g a5 (by simp)) (g a6 (by simp)) (g a7 (by simp))
    have g0 := g a0 (by simp); have g1 := g a1 (by simp); have g2 := g a2 (by simp); have g3 := g a3 (by simp)
    have g4 := g a4 (by simp); have g5 := g a5 (by simp); have g6 := g a6 (by simp); have g7 := g a7 (by simp)
    have := and127 _ s2 s3 _ (by omega) s1
    simp only [List.map_cons, List.map_nil]
    rw [this]
    simp
    omega
/-- The bits of a word, counted. -/
def cntN (S n : Nat) : Nat := ((List.range n).filter fun i => S.testBit i).length
theorem cntN_step (S n : Nat) : cntN S (8 + n) = pcPop8 (S % 256) + cntN (S / 256) n := by
  unfold cntN pcPop8
  rw [List.range_add, List.filter_append, List.length_append, List.filter_map, List.length_map]
  congr 2
  · apply List.filter_congr
    intro i hi
    rw [List.mem_range] at hi
    rw [show (256 : Nat) = 2 ^ 8 from rfl, Nat.testBit_mod_two_pow, decide_eq_true hi, Bool.true_and]
  · apply List.filter_congr
    intro i _
    rw [show (256 : Nat) = 2 ^ 8 from rfl, Nat.testBit_div_two_pow]
    show S.testBit (8 + i) = _
    rw [Nat.add_comm]
theorem cntN_pop (S : Nat) : cntN S 64 = popN S := by
  unfold popN byt
  rw [show (64 : Nat) = 8 + 56 from rfl, cntN_step, show (56 : Nat) = 8 + 48 from rfl, cntN_step, show (48 : Nat) = 8 + 40 from rfl, cntN_step, show (40 : Nat) = 8 + 32 from rfl, cntN_step, show (32 : Nat) = 8 + 24 from rfl, cntN_step, show (24 : Nat) = 8 + 16 from rfl, cntN_step, show (16 : Nat) = 8 + 8 from rfl, cntN_step, show (8 : Nat) = 8 + 0 from rfl, cntN_step]
  simp [List.range_succ, cntN, Nat.div_div_eq_div_mul]
theorem cnt_white (s : ByteArray) (n : Nat) (hn : n ≤ 64) : cntN (wT s n) 64 = whTo s n := by
  unfold cntN whTo
  rw [show 64 = n + (64 - n) by omega, List.range_add, List.filter_append, List.length_append]
  have h2 : ((List.range (64 - n)).map (n + ·)).filter (fun i => (wT s n).testBit i) = [] := by
    rw [List.filter_eq_nil_iff]
    intro i hi
    obtain ⟨j, -, rfl⟩ := List.mem_map.1 hi
    unfold wT
    rw [setTo_bit, decide_eq_false (by omega)]
    simp
  rw [h2]
  show _ + 0 = _
  rw [Nat.add_zero]
  congr 1
  apply List.filter_congr
  intro i hi
  rw [wT_bit s n i (List.mem_range.1 hi)]
  rfl
set_option maxRecDepth 100000 in
set_option maxHeartbeats 1600000 in
theorem pc_any (S : Nat) (hS : S < 18446744073709551616) (w : World) :
    Calls Tryz.prog 156 #[.int .u64 (S : Int)] w fun e w' => e = .returned (.int .i64 ((popN S : Nat) : Int)) ∧ w = w' := by
  rw [← pwE_is S hS]
  clear hS
  go_enter Tryz.func156, Tryz.ntmps156
  go_wp2
  go_ret
  exact ⟨rfl, rfl⟩
theorem pcount_any (S : Nat) (hS : S < 18446744073709551616) (w : World) :
    Calls Tryz.prog 109 #[.int .u64 (S : Int)] w fun e w' => e = .returned (.int .i64 ((popN S : Nat) : Int)) ∧ w = w' := by
  have HP := Lib.hid (fun w => pc_any S hS w)
  go_enter Tryz.func109, Tryz.ntmps109
  go_wp2_with (go_at_call 156; refine (HP.out _).mono ?_; rintro e w2 ⟨rfl, rfl⟩)
  go_ret
  exact ⟨rfl, rfl⟩
theorem share_is (g : Int × Int × ByteArray) : ((crossS g).length : Int) = (shareS g).1 ∧ ((popN (brd g).2.2 : Nat) : Int) = (shareS g).2 ∧ (brd g).2.2 < 18446744073709551616 := by
  by_cases hg : isG g = true
  · have h36 := isG_size hg
    unfold shareS brd
    rw [if_pos hg, if_pos hg]
    refine ⟨?_, ?_, Nat.lt_trans (wT_lt _ _ h36) (by decide)⟩
    · unfold crossS
      rw [chkTo_cross]
    · show ((popN (wT g.2.2 g.2.2.size) : Nat) : Int) = _
      rw [← cntN_pop, cnt_white _ _ (by omega)]
  · have hg2 : isG g = false := by simpa using hg
    unfold shareS brd
    rw [if_neg hg, if_neg hg, crossS_no hg2]
    exact ⟨rfl, by decide +kernel, by decide⟩
end Go.Proofs.YthgnhcjbjdhjfaaGreatDoor
