/- Contracts of Last, and of the document's Before, Place, At. -/
import Derived.Test.YtlchdelhhnlgbaaDoorZTo
namespace Go.Proofs.YtlchdelhhnlgbaaDoor
open Go.RowKit Go.Lib
set_option linter.unusedVariables false
set_option maxRecDepth 100000
end Go.Proofs.YtlchdelhhnlgbaaDoor
