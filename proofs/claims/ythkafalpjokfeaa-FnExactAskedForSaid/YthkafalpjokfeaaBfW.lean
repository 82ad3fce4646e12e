/-
  timeOf, isFirstText, isBefore of the program, l8Before of the model; MarksBefore, the program's and the model's: both answer alike. Used by the claims on chapter 8.
-/
import Derived.Test.YthkafalpjokfeaaBfL
import Derived.Test.YthkafalpjokfeaaMkTimeW
namespace Go.Proofs.Ythkafalpjokfeaa
open Go.RowKit
set_option linter.unusedVariables false

def mbR (a b : ByteArray) : Bool := marksL (bl a) && marksL (bl b)
def mbB (a b : ByteArray) : Bool := mbR a b && befL (bl a) (bl b)
/-! ### The model's -/
end Go.Proofs.Ythkafalpjokfeaa
