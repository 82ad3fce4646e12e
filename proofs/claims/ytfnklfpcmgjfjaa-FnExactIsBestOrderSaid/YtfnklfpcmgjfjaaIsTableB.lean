/-
  IsTable, the program's and the model's: both answer alike. Used by the claims on chapter 2.
-/
import Derived.Test.YtfnklfpcmgjfjaaTableW
import Derived.Test.YtfnklfpcmgjfjaaSTableW
namespace Go.Proofs.Ytfnklfpcmgjfjaa
open Go.RowKit
set_option linter.unusedVariables false

end Go.Proofs.Ytfnklfpcmgjfjaa
