/-
  strings.Trim at a cutset of ASCII signs, at this translation: one application of the kit's contract.
-/
import Derived.Test.YtijhfmjkiijhiaaDoorShelf
import Derived.Shelf.Strings.SlTrimAscii
namespace Go.Proofs.YtijhfmjkiijhiaaDoor
open Go.RowKit
set_option linter.unusedVariables false

theorem trim_any (s c : ByteArray) (w : World) (hs : s.size ≤ 1048576) (hc : c.size ≤ 100) (ha : c.data.toList.all (fun b => decide (b.toNat < 128)) = true) :
    Calls Tryd.prog 53 #[.string s, .string c] w fun e w' => e = .returned (.string ⟨(Lib.trimS s.data.toList c.data.toList).toArray⟩) ∧ Below w.heap.size w w' :=
  Any.strings_Trim_laid Tryd.lays160 (by kernel_rfl) s c w (by omega) (by omega) (ascii_of_all ha)
end Go.Proofs.YtijhfmjkiijhiaaDoor
