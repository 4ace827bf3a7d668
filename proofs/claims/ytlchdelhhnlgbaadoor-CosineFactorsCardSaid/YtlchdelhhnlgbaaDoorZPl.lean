/- Contract of Place. -/
import Derived.Test.YtlchdelhhnlgbaaDoorZOrd
namespace Go.Proofs.YtlchdelhhnlgbaaDoor
open Go.RowKit Go.Shelf Go.Lib
attribute [local go_sem] Oper.semAt_some
set_option linter.unusedVariables false

/-- The step of a place; the place of a step. -/
def placeS (x : Int) : Int := if 0 ≤ x ∧ x < 64 then ((zq x.toNat : Nat) : Int) else -1
def atS (x : Int) : Int := if 0 ≤ x ∧ x < 64 then ((za x.toNat : Nat) : Int) else -1
theorem placeS_of {m : Nat} (hm : m < 64) : placeS ((za m : Nat) : Int) = (m : Int) := by
  have h1 := za_lt m hm
  unfold placeS
  rw [if_pos (by omega), Int.toNat_natCast, zq_za m hm]
theorem placeS_none {x : Int} (h : ∀ m : Fin 64, ((za m.val : Nat) : Int) ≠ x) : placeS x = -1 := by
  unfold placeS
  split
  · rename_i hx
    have h1 := zq_lt x.toNat (by omega)
    have h2 := h ⟨zq x.toNat, h1⟩
    simp only [za_zq x.toNat (by omega)] at h2
    omega
  · rfl

end Go.Proofs.YtlchdelhhnlgbaaDoor
