/-
  The statements' words: Call.
-/
import Derived.Test.YtklolepmmabijaaMdJa
import Derived.Test.YtklolepmmabijaaMdJb
import Derived.Test.YtklolepmmabijaaMdJc
namespace Go.Proofs.Ytklolepmmabijaa
set_option maxRecDepth 100000
open Go.RowKit
set_option linter.unusedVariables false
set_option linter.unusedSimpArgs false

end Go.Proofs.Ytklolepmmabijaa
