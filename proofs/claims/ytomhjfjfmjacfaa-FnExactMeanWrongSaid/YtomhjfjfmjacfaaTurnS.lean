/-
  Contracts of the model's l2Back, l2Opposite: turned marks. Used by the claims on chapter 2.
-/
import Derived.Test.YtomhjfjfmjacfaaSDecW
namespace Go.Proofs.Ytomhjfjfmjacfaa
open Go.RowKit
set_option linter.unusedVariables false

end Go.Proofs.Ytomhjfjfmjacfaa
