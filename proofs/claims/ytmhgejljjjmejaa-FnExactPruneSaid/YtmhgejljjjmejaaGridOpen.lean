/-
  Grid arguments that come in, opened (written by structgen.py open).
-/
import Derived.Test.YtmhgejljjjmejaaOpen0
import Derived.Test.YtmhgejljjjmejaaGridS
namespace Go.Proofs.Ytmhgejljjjmejaa
open Go.RowKit Go.ChangeShapes Go.WideShapes Go.Deep

section
variable {H : Type} {enc : TypeId × Value → H} {w : World} {base : Nat} {spare : Nat → Bool} {held : Bool}
theorem cells_law_Grid : Try.prog.cellsOf 23 = 3 := by kernel_rfl
set_option maxRecDepth 100000 in
theorem open_el_Grid {m : Nat} {cs : List Value} {x : DataW H × List MemPlace} (hl : cs.length = 3) (h : DataW.trod enc Try.prog w base spare held m 23 cs = some x) : ∃ z, cs = cells_Grid z ∧ ok_Grid z := by
  obtain ⟨xs, k, -, -, -, hxl, hf⟩ := DataW.trod_struct Try.underlying23 h
  obtain ⟨c0, c1, c2, rfl⟩ : ∃ c0 c1 c2 : Value, cs = [c0, c1, c2] := by
    match cs, hl with
    | [c0, c1, c2], _ => exact ⟨c0, c1, c2, rfl⟩
  have hx : xs.length = 3 := hxl
  have g0 : DataW.trod enc Try.prog w base spare held k 3 [c0] = some (xs[0]'(by omega)) := by
    have h9 := hf 0 _ rfl
    rw [List.getElem?_eq_getElem (by omega)] at h9
    have hc : Try.prog.cellsOf 3 = 1 := by kernel_rfl
    simpa [hc] using h9
  obtain ⟨y0, e0, -, w0⟩ := DataW.trod_int Try.underlying3 g0
  have b0 := bd_i64 w0
  have g1 : DataW.trod enc Try.prog w base spare held k 3 [c1] = some (xs[1]'(by omega)) := by
    have h9 := hf 1 _ rfl
    rw [List.getElem?_eq_getElem (by omega)] at h9
    have hc : Try.prog.cellsOf 3 = 1 := by kernel_rfl
    simpa [hc] using h9
  obtain ⟨y1, e1, -, w1⟩ := DataW.trod_int Try.underlying3 g1
  have b1 := bd_i64 w1
  have g2 : DataW.trod enc Try.prog w base spare held k 9 [c2] = some (xs[2]'(by omega)) := by
    have h9 := hf 2 _ rfl
    rw [List.getElem?_eq_getElem (by omega)] at h9
    have hc : Try.prog.cellsOf 9 = 1 := by kernel_rfl
    simpa [hc] using h9
  obtain ⟨y2, e2, -, b2⟩ := DataW.trod_string Try.underlying9 g2
  cases e0
  cases e1
  cases e2
  exact ⟨(y0, y1, y2), rfl, ⟨b0, b1, b2⟩⟩
set_option maxRecDepth 100000 in
theorem open_Grid {v : Value} {y : DataW H} {p : List MemPlace} {r : Reach} {b0 : Nat} (hv : Value.okWide Try.prog w r b0 23 v) (h : DataW.Trod enc Try.prog w base spare held 23 v y p) :
    ∃ z : Int × Int × ByteArray, v = .agg (cells_Grid z).toArray ∧ ok_Grid z := by
  obtain ⟨cs, rfl, hsz⟩ := okWide_struct Try.underlying23 hv
  obtain ⟨fuel, hf⟩ := h
  obtain ⟨z, hz, hok⟩ := open_el_Grid (by rw [Array.length_toList]; exact hsz.trans cells_law_Grid) hf
  exact ⟨z, by rw [← hz]; simp [Value.cells], hok⟩
end
end Go.Proofs.Ytmhgejljjjmejaa
