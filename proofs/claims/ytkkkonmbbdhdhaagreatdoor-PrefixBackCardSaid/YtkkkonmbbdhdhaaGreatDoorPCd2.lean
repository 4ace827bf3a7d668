/- Contract of the document's Code. -/
import Derived.Test.YtkkkonmbbdhdhaaGreatDoorPCde
namespace Go.Proofs.YtkkkonmbbdhdhaaGreatDoor
open Go.RowKit Go.Lib
set_option linter.unusedVariables false
set_option maxRecDepth 100000

theorem find_at {l : List Int} {sym : Int} {k : Nat} (hk : k < l.length) (h : l.getD k 0 = sym) (hb : ∀ j, j < k → l.getD j 0 ≠ sym) : l.findIdx (· == sym) = k := by
  rw [List.findIdx_eq hk]
  refine ⟨by rw [List.getD_eq_getElem?_getD, List.getElem?_eq_getElem hk] at h; simpa using h, fun j hj => ?_⟩
  have := hb j hj
  rw [List.getD_eq_getElem?_getD, List.getElem?_eq_getElem (by omega)] at this
  simpa using this
theorem find_none {l : List Int} {sym : Int} (hb : ∀ j, j < l.length → l.getD j 0 ≠ sym) : l.findIdx (· == sym) = l.length := by
  rw [List.findIdx_eq_length]
  intro x hx
  obtain ⟨j, hj, rfl⟩ := List.mem_iff_getElem.1 hx
  have := hb j hj
  rw [List.getD_eq_getElem?_getD, List.getElem?_eq_getElem hj] at this
  simpa using this

end Go.Proofs.YtkkkonmbbdhdhaaGreatDoor
