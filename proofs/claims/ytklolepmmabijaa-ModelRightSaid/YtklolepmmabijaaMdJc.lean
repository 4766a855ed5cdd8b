/-
  The statements' words: Call, one case.
-/
import Derived.Test.YtklolepmmabijaaMdJ
namespace Go.Proofs.Ytklolepmmabijaa
set_option maxRecDepth 100000
open Go.RowKit
set_option linter.unusedVariables false
set_option linter.unusedSimpArgs false
set_option maxRecDepth 100000

end Go.Proofs.Ytklolepmmabijaa
