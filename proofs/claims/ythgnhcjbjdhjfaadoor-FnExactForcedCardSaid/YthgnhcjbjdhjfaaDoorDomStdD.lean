/-
  Forced and DomainsOf as the exact laws' walks take them.
-/
import Derived.Test.YthgnhcjbjdhjfaaDoorForced
import Derived.Test.YthgnhcjbjdhjfaaDoorDomsOf
import Derived.Test.YthgnhcjbjdhjfaaDoorBoxN
import Derived.Test.YthgnhcjbjdhjfaaDoorGridS
namespace Go.Proofs.YthgnhcjbjdhjfaaDoor
open Go.RowKit

theorem s_Forced (r c : Int) (s : ByteArray) (f : ByteArray) (v : Value) (l : List (List ByteArray)) (w : World) (_hK : ok_Grid (r, c, s)) (hs : s.size ≤ 1048576) (hf : f.size ≤ 1048576) (hv : ReadsN w.heap.size w v l) (_hl : l.length ≤ 1048576) (hz : ∀ m ∈ l, m.length ≤ 1048576 ∧ ∀ z ∈ m, z.size ≤ 1048576) :
    Calls Tryd.prog 32 #[.agg #[.int .i64 r, .int .i64 c, .string s], .string f, v] w fun e w' => ∃ x b, (x = (forcedF (r, c, s) f l).1 ∧ b = (forcedF (r, c, s) f l).2) ∧ e = .returned (.tuple #[.string x, .bool b]) ∧ Below w.heap.size w w' :=
  (sfor_any r c s f l (by omega) hf hz v w hv).mono fun _ _ ⟨h1, h2⟩ => ⟨_, _, ⟨rfl, rfl⟩, h1, h2⟩
theorem i_Forced (r c : Int) (s : ByteArray) (f : ByteArray) (v : Value) (l : List (List ByteArray)) (w : World) (_hK : ok_Grid (r, c, s)) (hs : s.size ≤ 1048576) (hf : f.size ≤ 1048576) (hv : ReadsN w.heap.size w v l) (_hl : l.length ≤ 1048576) (hz : ∀ m ∈ l, m.length ≤ 1048576 ∧ ∀ z ∈ m, z.size ≤ 1048576) (hV : ML w) :
    Calls Tryd.prog 34 #[.agg #[.int .i64 r, .int .i64 c, .string s], .string f, v] w fun e w' => ∃ x b, (x = (forcedF (r, c, s) f l).1 ∧ b = (forcedF (r, c, s) f l).2) ∧ e = .returned (.tuple #[.string x, .bool b]) ∧ Below w.heap.size w w' :=
  (ifor_any r c s f l (by omega) hf hz v w hV hv).mono fun _ _ ⟨h1, h2⟩ => ⟨_, _, ⟨rfl, rfl⟩, h1, h2⟩
theorem u_Forced {g : Int × Int × ByteArray} {f : ByteArray} {l : List (List ByteArray)} {x x' : ByteArray} {b b' : Bool} (h : x = (forcedF g f l).1 ∧ b = (forcedF g f l).2) (h' : x' = (forcedF g f l).1 ∧ b' = (forcedF g f l).2) : x = x' ∧ b = b' := ⟨h.1.trans h'.1.symm, h.2.trans h'.2.symm⟩
theorem s_DomainsOf (r c : Int) (s : ByteArray) (f : ByteArray) (v : Value) (l : List ByteArray) (w : World) (_hK : ok_Grid (r, c, s)) (hs : s.size ≤ 1048576) (hf : f.size ≤ 1048576) (hv : ReadsS w.heap.size w v l) (hl : l.length ≤ 1048576) (_hz : ∀ z ∈ l, z.size ≤ 1048576) :
    Calls Tryd.prog 24 #[.agg #[.int .i64 r, .int .i64 c, .string s], .string f, v] w fun e w' => ∃ L v', L = domsF (r, c, s) f l ∧ L.length ≤ 16777216 ∧ e = .returned v' ∧ BoxN w' w.heap.size w'.heap.size v' L ∧ Below w.heap.size w w' :=
  (sdom_any r c s f l (by omega) (by omega) hl v w hv).mono fun _ _ ⟨v', h1, h2, h3⟩ => ⟨_, v', rfl, by have := domsF_few (r, c, s) f l; omega, h1, ⟨h2, Nat.le_refl _, by have := domsF_few (r, c, s) f l; omega, fun m hm => Nat.le_trans (domsF_short _ _ _ m hm) hl⟩, h3⟩
theorem i_DomainsOf (r c : Int) (s : ByteArray) (f : ByteArray) (v : Value) (l : List ByteArray) (w : World) (_hK : ok_Grid (r, c, s)) (hs : s.size ≤ 1048576) (hf : f.size ≤ 1048576) (hv : ReadsS w.heap.size w v l) (hl : l.length ≤ 1048576) (hz : ∀ z ∈ l, z.size ≤ 1048576) (hV : ML w) :
    Calls Tryd.prog 26 #[.agg #[.int .i64 r, .int .i64 c, .string s], .string f, v] w fun e w' => ∃ L v', L = domsF (r, c, s) f l ∧ L.length ≤ 16777216 ∧ e = .returned v' ∧ BoxN w' w.heap.size w'.heap.size v' L ∧ Below w.heap.size w w' :=
  (idom_any r c s f l (by omega) hf hl hz v w hV hv).mono fun _ _ ⟨v', h1, h2, h3⟩ => ⟨_, v', rfl, by have := domsF_few (r, c, s) f l; omega, h1, ⟨h2, Nat.le_refl _, by have := domsF_few (r, c, s) f l; omega, fun m hm => Nat.le_trans (domsF_short _ _ _ m hm) hl⟩, h3⟩
theorem u_DomainsOf {g : Int × Int × ByteArray} {f : ByteArray} {l : List ByteArray} {x x' : List (List ByteArray)} (h : x = domsF g f l) (h' : x' = domsF g f l) : x = x' := h.trans h'.symm
end Go.Proofs.YthgnhcjbjdhjfaaDoor
