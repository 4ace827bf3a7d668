/- The iterator of the steps: it yields each step with its place. -/
import Derived.RangeFuncNested
import Derived.RangeFuncBound
import Derived.RangeFuncCalls
import Derived.RangeFuncLeaves
import Derived.Shelf.Abstract
import Derived.Shelf.RegionOpen
import Derived.WalkKit
import Derived.OwnWalkIn
import Derived.TacticsInMore
import Derived.LoopNIn
import Derived.LoopIn
import Derived.Test.YtlchdelhhnlgbaaDoorZP
namespace Go.Proofs.YtlchdelhhnlgbaaDoor
open Go.RowKit Go.Shelf Go.Lib
attribute [local go_sem] Oper.semAt_some
set_option linter.unusedVariables false

abbrev encs (m : Fin 64) : Array Value := #[.int .i64 (m.val : Int), .int .i64 ((za m.val : Nat) : Int)]
theorem encs_eq {m : Nat} (hm : m < 64) {a b : Int} (ha : (m : Int) = a) (hb : ((za m : Nat) : Int) = b) : encs ⟨m, hm⟩ = #[.int .i64 a, .int .i64 b] := by
  subst ha hb; rfl
end Go.Proofs.YtlchdelhhnlgbaaDoor
