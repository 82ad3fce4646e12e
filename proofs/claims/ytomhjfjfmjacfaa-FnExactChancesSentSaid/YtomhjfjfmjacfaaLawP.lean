/-
  What a law's walk carries of its Table's and its noise's own blocks, over a row that is written. Used by the claims on chapter 7.
-/
import Derived.Test.YtomhjfjfmjacfaaLawN
import Derived.Test.YtomhjfjfmjacfaaMarkT
namespace Go.Proofs.Ytomhjfjfmjacfaa
open Go.RowKit
set_option linter.unusedVariables false

theorem CarW.grown {w W W' : World} {a : Option Addr} {n c q : Nat} {N d : Int} (h : CarW w a n c N d W) (hg : W.grownBy W' (some q)) (hq : w.heap.size + 1 < q) : CarW w a n c N d W' :=
  ⟨h.car.grown hg (by omega), (hg.block (w.heap.size + 1) h.noi.lt (fun e => by injection e with e; omega)).trans h.noi⟩
end Go.Proofs.Ytomhjfjfmjacfaa
