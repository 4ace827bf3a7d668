/- Contract of the document's Cost. -/
import Derived.Test.YtkkkonmbbdhdhaaGreatDoorFCost
namespace Go.Proofs.YtkkkonmbbdhdhaaGreatDoor
open Go.RowKit Go.Lib
set_option linter.unusedVariables false
set_option maxRecDepth 100000

theorem costB_out {cs l t : List Int} (hm : mayB cs l = true) (h : cntB t = true) (ho : okN cs l t t.length) : costB cs l t = costN cs l t t.length := by
  unfold costB
  rw [hm, h, okB_true ho]
  rfl
theorem costB_not {cs l t : List Int} {k : Nat} (hk : k < t.length) (h0 : 0 < t.getD k 0) (h1 : (codeAt cs l k).2 = 0) : costB cs l t = -1 := by
  unfold costB
  have : okB cs l t t.length = false := okB_false fun ho => by
    have := ho k hk
    omega
  rw [this]
  simp
theorem cnt_all {t : List Int} (h : cntB t = true) : ∀ j, 0 ≤ t.getD j 0 ∧ t.getD j 0 ≤ 1099511627776 := by
  intro j
  by_cases hj : j < t.length
  · exact cntB_in h j hj
  · rw [List.getD_eq_getElem?_getD, List.getElem?_eq_none (by omega)]; simp

end Go.Proofs.YtkkkonmbbdhdhaaGreatDoor
