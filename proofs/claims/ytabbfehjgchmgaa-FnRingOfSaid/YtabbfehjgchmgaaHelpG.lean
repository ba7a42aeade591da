/-
  scaled and turned of the laws.
-/
import Derived.Test.YtabbfehjgchmgaaApp
import Derived.Test.YtabbfehjgchmgaaInfo
namespace Go.Proofs.Ytabbfehjgchmgaa
open Go.RowKit
set_option linter.unusedVariables false

def scaledL (c : Int) (xs : List Int) : List Int := tab xs.length fun j => wrap64 (c * ix xs j)
def turnedL (xs : List Int) : List Int := tab xs.length fun j => ix xs (xs.length - 1 - j)
def timesL (xs ys : List Int) : List Int := tab xs.length fun j => wrap64 (ix xs j * ix ys j)

end Go.Proofs.Ytabbfehjgchmgaa
