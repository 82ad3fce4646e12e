/-
  IsTable, the program's and the model's: both answer alike. Used by the claims on chapter 2.
-/
import Derived.Test.YtfjedcjpgmledaaTableW
import Derived.Test.YtfjedcjpgmledaaSTableW
namespace Go.Proofs.Ytfjedcjpgmledaa
open Go.RowKit
set_option linter.unusedVariables false

theorem sIsTable_any (a : Option Addr) (b o c : Nat) (xs : List ByteArray) (w : World) (h : ListIn w a b o xs) :
    Calls Try.prog 46 #[.agg #[.slice a xs.length c]] w fun e w' => e = .returned (.bool (tableB xs)) ∧ Below w.heap.size w w' := by
  have F := Lib.hid fun ob => stable_any a b o c xs (w.alloc ob) (h.below (below_alloc w ob))
  clear h
  go_enter Try.func46, Try.ntmps46
  go_wp2_with fail
  refine (F.out _).mono ?_
  rintro e w' ⟨rfl, hb⟩
  have HB := Lib.hid ((below_alloc w (.cells #[.slice a xs.length c] 26)).trans (hb.mono (by simp)))
  clear hb
  go_wp2
  go_ret
  exact ⟨rfl, HB.out⟩

theorem isTable_both (xs : List ByteArray) (hl : xs.length ≤ 1048576) (ht : ∀ x ∈ xs, x.size ≤ 1048576) : ∃ R0 : Bool,
    Hid (∀ W a b o c, ListIn W a b o xs → Calls Try.prog 46 #[.agg #[.slice a xs.length c]] W fun e W' => e = .returned (.bool R0) ∧ Below W.heap.size W W') ∧
    Hid (∀ W a b o c, ListIn W a b o xs → Calls Try.prog 22 #[.agg #[.slice a xs.length c]] W fun e W' => e = .returned (.bool R0) ∧ Below W.heap.size W W') :=
  ⟨tableB xs, fun W a b o c h => sIsTable_any a b o c xs W h, fun W a b o c h => isTable_any a b o c xs W h⟩
end Go.Proofs.Ytfjedcjpgmledaa
