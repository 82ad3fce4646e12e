/-
  IsTable, the program's and the model's: both answer alike. Used by the claims on chapter 2.
-/
import Derived.Test.YtdphjnbelggcfaaTableW
import Derived.Test.YtdphjnbelggcfaaSTableW
namespace Go.Proofs.Ytdphjnbelggcfaa
open Go.RowKit
set_option linter.unusedVariables false

end Go.Proofs.Ytdphjnbelggcfaa
