/-
  IsTable, the program's and the model's: both answer alike. Used by the claims on chapter 2.
-/
import Derived.Test.YtekgmdigchobbaaTableW
import Derived.Test.YtekgmdigchobbaaSTableW
namespace Go.Proofs.Ytekgmdigchobbaa
open Go.RowKit
set_option linter.unusedVariables false

end Go.Proofs.Ytekgmdigchobbaa
