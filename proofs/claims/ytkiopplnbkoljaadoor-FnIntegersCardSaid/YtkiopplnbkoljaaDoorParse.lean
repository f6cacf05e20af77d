/-
  Contracts of impl.ParseInt: the number and true where the string is the decimal form of a number from 0 to 1000000000000, else 0 and false; where the listed variables lie as start-up lays them; nothing that was there is changed.
-/
import Derived.Test.YtkiopplnbkoljaaDoorNums
import Derived.Test.YtkiopplnbkoljaaDoorPlain
import Derived.Test.YtkiopplnbkoljaaDoorIs
import Derived.Lib.AtoiErrMem
import Derived.Deep.RegionWith
import Derived.BigQuiet
import Derived.Deep.QuietTactic
namespace Go.Proofs.YtkiopplnbkoljaaDoor
open Go.RowKit

theorem gErr : Tryd.prog.globalNamed "loop.example/g03003/impl.errNotInteger" = some 0 := by kernel_rfl
theorem gSyn : Tryd.prog.globalNamed "strconv.ErrSyntax" = some 1 := by kernel_rfl
theorem gRng : Tryd.prog.globalNamed "strconv.ErrRange" = some 2 := by kernel_rfl

/-- The listed variables, as the walks want them. -/
structure Vars (W : World) (a : Addr) (p q : Value) : Prop where
  tab : Lib.TabIs Tryd.prog W "internal/strconv.uint64pow10" .u64 Lib.pow10Tab
  err : W.var? Tryd.prog "loop.example/g03003/impl.errNotInteger" = some #[.iface 96 (.pointer (some a))]
  syn : W.var? Tryd.prog "strconv.ErrSyntax" = some #[.iface 96 p]
  rng : W.var? Tryd.prog "strconv.ErrRange" = some #[.iface 96 q]
theorem Vars.stays {W W' : World} {a : Addr} {p q : Value} (h : Vars W a p q) (hb : Below W.heap.size W W') : Vars W' a p q :=
  ⟨Joins.tab_stays gPow h.tab hb (Nat.le_refl _), Joins.var_stays gErr h.err hb (Nat.le_refl _), Joins.var_stays gSyn h.syn hb (Nat.le_refl _), Joins.var_stays gRng h.rng hb (Nat.le_refl _)⟩
theorem Vars.cell {W : World} {a : Addr} {p q : Value} (h : Vars W a p q) : W.cell? ⟨0, 0, none⟩ = some (.iface 96 (.pointer (some a))) := by
  have := World.var?_cell gErr h.err 0; simpa using this

theorem atoi_ok (s : ByteArray) (hlim : s.size ≤ 281474976710656) (v : Int) (h : Lib.atoiAll s.data.toList = .ok v) (w : World) :
    Calls Tryd.prog 28 #[.string s] w fun e w' => e = .returned (.tuple #[.int .i64 v, .nilIface]) ∧ Below w.heap.size w w' := by
  refine (Tryd.strconv_Atoi_ok s (by omega) v h w).mono fun e w' ⟨he, hw⟩ => ⟨he, ?_⟩
  rcases hw with rfl | ⟨t, rfl⟩
  · exact Below.refl _ _
  · exact Lib.bytesWorld_below _ _ _

theorem in_yes (n : Int) (h : 0 ≤ n ∧ n ≤ 1000000000000) (w : World) :
    Calls Tryd.prog 24 #[.int .i64 n, .int .i64 0, .int .i64 1000000000000] w fun e w' => e = .returned (.bool true) ∧ w = w' := by
  obtain ⟨h1, h2⟩ := h
  go_enter Tryd.func24, Tryd.ntmps24
  go_wp2
  go_ret
  exact ⟨rfl, rfl⟩
theorem in_no (n : Int) (h : ¬ (0 ≤ n ∧ n ≤ 1000000000000)) (w : World) :
    Calls Tryd.prog 24 #[.int .i64 n, .int .i64 0, .int .i64 1000000000000] w fun e w' => e = .returned (.bool false) ∧ w = w' := by
  by_cases h1 : 0 ≤ n
  · have hd : decide (n ≤ 1000000000000) = false := decide_eq_false (by omega)
    clear h
    go_enter Tryd.func24, Tryd.ntmps24
    go_wp2
    go_ret
    exact ⟨rfl, rfl⟩
  · have hd : decide (0 ≤ n) = false := decide_eq_false (by omega)
    clear h
    go_enter Tryd.func24, Tryd.ntmps24
    go_wp2
    go_ret
    exact ⟨rfl, rfl⟩

theorem pd_bad (s : ByteArray) (hlim : s.size ≤ 281474976710656) (h : ∀ v, Lib.atoiAll s.data.toList ≠ .ok v) (a : Addr) (p q : Value) (w : World) (hV : Vars w a p q) :
    Calls Tryd.prog 20 #[.string s] w fun e w' => e = .returned (.tuple #[.int .i64 0, .iface 96 (.pointer (some a))]) ∧ Below w.heap.size w w' := by
  go_enter Tryd.func20, Tryd.ntmps20
  go_wp2_with (go_at_call 28; refine (Tryd.atoi_bad s hlim h 96 96 p q _ hV.syn hV.rng).mono ?_; rintro e w1 ⟨N, m, rfl, hb⟩)
  have hc := (hV.stays hb).cell
  go_region
  all_goals go_wp2
  all_goals go_ret2
  all_goals exact ⟨rfl, by repeat (first | exact hb | apply Below.drew)⟩
theorem pd_out (s : ByteArray) (hlim : s.size ≤ 281474976710656) (v : Int) (h : Lib.atoiAll s.data.toList = .ok v) (hr : ¬ (0 ≤ v ∧ v ≤ 1000000000000)) (a : Addr) (p q : Value) (w : World) (hV : Vars w a p q) :
    Calls Tryd.prog 20 #[.string s] w fun e w' => e = .returned (.tuple #[.int .i64 0, .iface 96 (.pointer (some a))]) ∧ Below w.heap.size w w' := by
  go_enter Tryd.func20, Tryd.ntmps20
  go_wp2_with (first | (go_at_call 28; refine (atoi_ok s hlim v h _).mono ?_; rintro e w1 ⟨rfl, hb⟩) | (go_at_call 24; refine (in_no v hr _).mono ?_; rintro e w2 ⟨rfl, rfl⟩))
  have hc := (hV.stays hb).cell
  go_region
  all_goals go_wp2
  all_goals go_ret2
  all_goals exact ⟨rfl, by repeat (first | exact hb | apply Below.drew)⟩
theorem pd_other (s : ByteArray) (hlim : s.size ≤ 281474976710656) (v : Int) (h : Lib.atoiAll s.data.toList = .ok v) (hr : 0 ≤ v ∧ v ≤ 1000000000000) (hn : (Lib.itoa v == s.toList) = false) (a : Addr) (p q : Value) (w : World) (hV : Vars w a p q) :
    Calls Tryd.prog 20 #[.string s] w fun e w' => e = .returned (.tuple #[.int .i64 0, .iface 96 (.pointer (some a))]) ∧ Below w.heap.size w w' := by
  have hr0 := hr.1
  have hr1 := hr.2
  go_enter Tryd.func20, Tryd.ntmps20
  go_wp2_with (first | (go_at_call 28; refine (atoi_ok s hlim v h _).mono ?_; rintro e w1 ⟨rfl, hb⟩) | (go_at_call 24; refine (in_yes v hr _).mono ?_; rintro e w2 ⟨rfl, rfl⟩) | (go_at_call 10; refine (impl_format v (by omega) (by omega) _ (hV.stays hb).tab).mono ?_; rintro e w3 ⟨rfl, hb3⟩))
  have hb4 := hb.trans (Joins.below_le hb3 hb.size)
  have hc := (hV.stays hb4).cell
  go_region
  all_goals go_wp2
  all_goals go_ret2
  all_goals exact ⟨rfl, by repeat (first | exact hb4 | apply Below.drew)⟩
theorem pd_yes (s : ByteArray) (hlim : s.size ≤ 281474976710656) (v : Int) (h : Lib.atoiAll s.data.toList = .ok v) (hr : 0 ≤ v ∧ v ≤ 1000000000000) (hn : (Lib.itoa v == s.toList) = true) (a : Addr) (p q : Value) (w : World) (hV : Vars w a p q) :
    Calls Tryd.prog 20 #[.string s] w fun e w' => e = .returned (.tuple #[.int .i64 v, .nilIface]) ∧ Below w.heap.size w w' := by
  have hr0 := hr.1
  have hr1 := hr.2
  go_enter Tryd.func20, Tryd.ntmps20
  go_wp2_with (first | (go_at_call 28; refine (atoi_ok s hlim v h _).mono ?_; rintro e w1 ⟨rfl, hb⟩) | (go_at_call 24; refine (in_yes v hr _).mono ?_; rintro e w2 ⟨rfl, rfl⟩) | (go_at_call 10; refine (impl_format v (by omega) (by omega) _ (hV.stays hb).tab).mono ?_; rintro e w3 ⟨rfl, hb3⟩))
  go_ret2
  exact ⟨rfl, hb.trans (Joins.below_le hb3 hb.size)⟩

theorem pd_no (s : ByteArray) (hlim : s.size ≤ 281474976710656) (h : ∀ v, ¬ canon s.data.toList v) (a : Addr) (p q : Value) (w : World) (hV : Vars w a p q) :
    Calls Tryd.prog 20 #[.string s] w fun e w' => e = .returned (.tuple #[.int .i64 0, .iface 96 (.pointer (some a))]) ∧ Below w.heap.size w w' := by
  by_cases hx : ∃ v, Lib.atoiAll s.data.toList = .ok v
  · obtain ⟨v, hv⟩ := hx
    by_cases hr : 0 ≤ v ∧ v ≤ 1000000000000
    · refine pd_other s hlim v hv hr ?_ a p q w hV
      have h1 : Lib.itoa v ≠ s.data.toList := fun e => h v ⟨hr.1, hr.2, e⟩
      rw [ByteArray.toList_eq]
      simpa using h1
    · exact pd_out s hlim v hv hr a p q w hV
  · exact pd_bad s hlim (fun v hv => hx ⟨v, hv⟩) a p q w hV
theorem pd_canon (s : ByteArray) (hlim : s.size ≤ 281474976710656) (v : Int) (h : canon s.data.toList v) (a : Addr) (p q : Value) (w : World) (hV : Vars w a p q) :
    Calls Tryd.prog 20 #[.string s] w fun e w' => e = .returned (.tuple #[.int .i64 v, .nilIface]) ∧ Below w.heap.size w w' :=
  pd_yes s hlim v (canon_atoi h) ⟨h.1, h.2.1⟩ (by rw [ByteArray.toList_eq, h.2.2]; simp) a p q w hV

/-- ████ impl.ParseInt, where s is the decimal form of v. -/
theorem parse_yes (s : ByteArray) (hlim : s.size ≤ 281474976710656) (v : Int) (h : canon s.data.toList v) (a : Addr) (p q : Value) (w : World) (hV : Vars w a p q) :
    Calls Tryd.prog 8 #[.string s] w fun e w' => e = .returned (.tuple #[.int .i64 v, .bool true]) ∧ Below w.heap.size w w' := by
  go_enter Tryd.func8, Tryd.ntmps8
  go_wp2_with (first | (go_at_call 20; refine (pd_canon s hlim v h a p q _ hV).mono ?_; rintro e w1 ⟨rfl, hb⟩; have hc := (hV.stays hb).cell) | (go_at_call 21; refine (is_nil a _).mono ?_; rintro e w2 ⟨rfl, rfl⟩))
  go_ret2
  exact ⟨rfl, hb⟩
/-- ████ impl.ParseInt, where s is no decimal form of a number from 0 to MaxValue. -/
theorem parse_no (s : ByteArray) (hlim : s.size ≤ 281474976710656) (h : ∀ v, ¬ canon s.data.toList v) (a : Addr) (p q : Value) (w : World) (hV : Vars w a p q) :
    Calls Tryd.prog 8 #[.string s] w fun e w' => e = .returned (.tuple #[.int .i64 0, .bool false]) ∧ Below w.heap.size w w' := by
  go_enter Tryd.func8, Tryd.ntmps8
  go_wp2_with (first | (go_at_call 20; refine (pd_no s hlim h a p q _ hV).mono ?_; rintro e w1 ⟨rfl, hb⟩; have hc := (hV.stays hb).cell) | (go_at_call 21; refine (is_same a _).mono ?_; rintro e w2 ⟨rfl, rfl⟩))
  go_ret2
  exact ⟨rfl, hb⟩
end Go.Proofs.YtkiopplnbkoljaaDoor
