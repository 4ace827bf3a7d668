/- Contracts of the document's To and From. -/
import Derived.Test.YtlchdelhhnlgbaaDoorZLast
namespace Go.Proofs.YtlchdelhhnlgbaaDoor
open Go.RowKit Go.Lib
set_option linter.unusedVariables false
set_option maxRecDepth 100000
end Go.Proofs.YtlchdelhhnlgbaaDoor
