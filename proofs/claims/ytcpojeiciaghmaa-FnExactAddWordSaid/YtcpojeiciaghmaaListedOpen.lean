/-
  Listed arguments that come in, opened (written by structgen.py open).
-/
import Derived.Test.YtcpojeiciaghmaaOpen0
import Derived.Test.YtcpojeiciaghmaaListedS
namespace Go.Proofs.Ytcpojeiciaghmaa
open Go.RowKit Go.ChangeShapes Go.WideShapes Go.Deep

section
variable {H : Type} {enc : TypeId × Value → H} {w : World} {base : Nat} {spare : Nat → Bool} {held : Bool}
theorem cells_law_Listed : Try.prog.cellsOf 52 = 4 := by kernel_rfl
set_option maxRecDepth 100000 in
theorem open_el_Listed {m : Nat} {cs : List Value} {x : DataW H × List MemPlace} (hl : cs.length = 4) (h : DataW.trod enc Try.prog w base spare held m 52 cs = some x) : ∃ z, cs = cells_Listed z ∧ ok_Listed z := by
  obtain ⟨xs, k, -, -, -, hxl, hf⟩ := DataW.trod_struct Try.underlying52 h
  obtain ⟨c0, c1, c2, c3, rfl⟩ : ∃ c0 c1 c2 c3 : Value, cs = [c0, c1, c2, c3] := by
    match cs, hl with
    | [c0, c1, c2, c3], _ => exact ⟨c0, c1, c2, c3, rfl⟩
  have hx : xs.length = 4 := hxl
  have g0 : DataW.trod enc Try.prog w base spare held k 9 [c0] = some (xs[0]'(by omega)) := by
    have h9 := hf 0 _ rfl
    rw [List.getElem?_eq_getElem (by omega)] at h9
    have hc : Try.prog.cellsOf 9 = 1 := by kernel_rfl
    simpa [hc] using h9
  obtain ⟨y0, e0, -, b0⟩ := DataW.trod_string Try.underlying9 g0
  have g1 : DataW.trod enc Try.prog w base spare held k 3 [c1] = some (xs[1]'(by omega)) := by
    have h9 := hf 1 _ rfl
    rw [List.getElem?_eq_getElem (by omega)] at h9
    have hc : Try.prog.cellsOf 3 = 1 := by kernel_rfl
    simpa [hc] using h9
  obtain ⟨y1, e1, -, w1⟩ := DataW.trod_int Try.underlying3 g1
  have b1 := bd_i64 w1
  have g2 : DataW.trod enc Try.prog w base spare held k 3 [c2] = some (xs[2]'(by omega)) := by
    have h9 := hf 2 _ rfl
    rw [List.getElem?_eq_getElem (by omega)] at h9
    have hc : Try.prog.cellsOf 3 = 1 := by kernel_rfl
    simpa [hc] using h9
  obtain ⟨y2, e2, -, w2⟩ := DataW.trod_int Try.underlying3 g2
  have b2 := bd_i64 w2
  have g3 : DataW.trod enc Try.prog w base spare held k 3 [c3] = some (xs[3]'(by omega)) := by
    have h9 := hf 3 _ rfl
    rw [List.getElem?_eq_getElem (by omega)] at h9
    have hc : Try.prog.cellsOf 3 = 1 := by kernel_rfl
    simpa [hc] using h9
  obtain ⟨y3, e3, -, w3⟩ := DataW.trod_int Try.underlying3 g3
  have b3 := bd_i64 w3
  cases e0
  cases e1
  cases e2
  cases e3
  exact ⟨(y0, y1, y2, y3), rfl, ⟨b0, b1, b2, b3⟩⟩
set_option maxRecDepth 100000 in
theorem open_ListedS {v : Value} {y : DataW H} {p : List MemPlace} {r : Reach} {b0 : Nat} (hv : Value.okWide Try.prog w r b0 43 v) (h : DataW.Trod enc Try.prog w base spare held 43 v y p) :
    ∃ l, ReadsListed w.heap.size w v l ∧ ∀ z ∈ l, ok_Listed z :=
  open_rows cells_Listed ok_Listed none_Listed 4 (by decide) cells_Listed_length Try.underlying43 cells_law_Listed (fun _ _ _ hl h => open_el_Listed hl h) hv h
set_option maxRecDepth 100000 in
theorem open_Listed {v : Value} {y : DataW H} {p : List MemPlace} {r : Reach} {b0 : Nat} (hv : Value.okWide Try.prog w r b0 52 v) (h : DataW.Trod enc Try.prog w base spare held 52 v y p) :
    ∃ z : ByteArray × Int × Int × Int, v = .agg (cells_Listed z).toArray ∧ ok_Listed z := by
  obtain ⟨cs, rfl, hsz⟩ := okWide_struct Try.underlying52 hv
  obtain ⟨fuel, hf⟩ := h
  obtain ⟨z, hz, hok⟩ := open_el_Listed (by rw [Array.length_toList]; exact hsz.trans cells_law_Listed) hf
  exact ⟨z, by rw [← hz]; simp [Value.cells], hok⟩
end
end Go.Proofs.Ytcpojeiciaghmaa
