/- Contract of the document's Counts. -/
import Derived.Test.YtkkkonmbbdhdhaaGreatDoorMemI
namespace Go.Proofs.YtkkkonmbbdhdhaaGreatDoor
open Go.RowKit Go.Lib
set_option linter.unusedVariables false
set_option maxRecDepth 100000

/-- Symbol counts that may be. -/
def cntB (l : List Int) : Bool := decide (l.length ≤ 256) && l.all fun x => decide (0 ≤ x) && decide (x ≤ 1099511627776)
theorem cntB_no {l : List Int} {k : Nat} (hk : k < l.length) (h : l.getD k 0 < 0 ∨ 1099511627776 < l.getD k 0) : cntB l = false := by
  have hm : l.getD k 0 ∈ l := by
    rw [List.getD_eq_getElem?_getD, List.getElem?_eq_getElem hk]
    exact List.getElem_mem hk
  cases hb : cntB l with
  | false => rfl
  | true =>
    unfold cntB at hb
    rw [Bool.and_eq_true, List.all_eq_true] at hb
    have := hb.2 _ hm
    rw [Bool.and_eq_true, decide_eq_true_eq, decide_eq_true_eq] at this
    omega
theorem cntB_yes {l : List Int} (hl : l.length ≤ 256) (h : ∀ j, j < l.length → 0 ≤ l.getD j 0 ∧ l.getD j 0 ≤ 1099511627776) : cntB l = true := by
  unfold cntB
  rw [Bool.and_eq_true, List.all_eq_true, decide_eq_true_eq]
  refine ⟨hl, fun x hx => ?_⟩
  obtain ⟨k, hk, rfl⟩ := List.mem_iff_getElem.1 hx
  have := h k hk
  rw [List.getD_eq_getElem?_getD, List.getElem?_eq_getElem hk] at this
  rw [Bool.and_eq_true, decide_eq_true_eq, decide_eq_true_eq]
  exact this
theorem cntB_long {l : List Int} (hl : 256 < l.length) : cntB l = false := by
  unfold cntB
  rw [Bool.and_eq_false_iff]
  exact .inl (decide_eq_false (by omega))

end Go.Proofs.YtkkkonmbbdhdhaaGreatDoor
