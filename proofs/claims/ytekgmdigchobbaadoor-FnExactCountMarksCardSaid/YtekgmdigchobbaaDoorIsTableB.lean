/-
  IsTable, the program's and the model's: both answer alike. Used by the claims on chapter 2.
-/
import Derived.Test.YtekgmdigchobbaaDoorTableW
import Derived.Test.YtekgmdigchobbaaDoorSTableW
namespace Go.Proofs.YtekgmdigchobbaaDoor
open Go.RowKit
set_option linter.unusedVariables false

end Go.Proofs.YtekgmdigchobbaaDoor
