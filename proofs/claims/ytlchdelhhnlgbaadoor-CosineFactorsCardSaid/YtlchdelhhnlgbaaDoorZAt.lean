/- Contract of At. -/
import Derived.Test.YtlchdelhhnlgbaaDoorZPl
import Derived.Deep.DeepCutAuto
namespace Go.Proofs.YtlchdelhhnlgbaaDoor
open Go.RowKit Go.Lib
set_option linter.unusedVariables false
set_option maxRecDepth 100000
theorem sizeI : (Tryd.prog.info? 3).map (·.size) = some 1 := by kernel_rfl
theorem ia_zi {k : Nat} (h : k < 64) : (ia zi)[k]? = some (.int .i64 ((za k : Nat) : Int)) := by rw [ia_at (by rw [zi_len]; exact h), zi_at h]
end Go.Proofs.YtlchdelhhnlgbaaDoor
