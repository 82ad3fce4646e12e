/-
  IsTable, the program's and the model's: both answer alike. Used by the claims on chapter 2.
-/
import Derived.Test.YtgdiffdpjpkleaaTableW
import Derived.Test.YtgdiffdpjpkleaaSTableW
namespace Go.Proofs.Ytgdiffdpjpkleaa
open Go.RowKit
set_option linter.unusedVariables false

end Go.Proofs.Ytgdiffdpjpkleaa
