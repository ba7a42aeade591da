/-
  BelowOf and UnbelowOf of the model, by their contracts.
-/
import Derived.Test.YtpalmbcknjmmcaaBelow
import Derived.Test.YtpalmbcknjmmcaaMany
namespace Go.Proofs.Ytpalmbcknjmmcaa
open Go.RowKit
set_option linter.unusedVariables false

end Go.Proofs.Ytpalmbcknjmmcaa
