/-
  l8Swap of the model: the same swap. Used by the claims on chapter 8.
-/
import Derived.Test.YtdphjnbelggcfaaSwpW
namespace Go.Proofs.Ytdphjnbelggcfaa
open Go.RowKit
set_option linter.unusedVariables false

end Go.Proofs.Ytdphjnbelggcfaa
