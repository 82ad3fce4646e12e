/-
  strings.Repeat at a text of one byte. Used by the claims on chapter 4.
-/
import Derived.Test.YtijhfmjkiijhiaaSignW
import Derived.Test.YtijhfmjkiijhiaaEncS0
import Derived.Test.YtijhfmjkiijhiaaShelf
import Derived.Lib.RepeatB
import Derived.ProofKit
import Derived.Below
namespace Go.Proofs.Ytijhfmjkiijhiaa
open Go.RowKit
set_option linter.unusedVariables false

theorem rep_one (x : UInt8) : ∀ n, Lib.repeatL [x] n = List.replicate n x
  | 0 => rfl
  | n + 1 => by rw [Lib.repeatL, rep_one x n, List.replicate_succ]; rfl
theorem ext_one (s : ByteArray) (i : Nat) (h : i < s.size) : s.extract i (i + 1) = ⟨#[s[i]]⟩ := by
  apply bl_inj
  have := extract_one s i h
  rw [ByteArray.toList_eq] at this
  exact this
theorem repeat_any (s : ByteArray) (c : UInt8) (n : Nat) (w : World) (hs : s = ⟨#[c]⟩) (hn : n ≤ 1048576) :
    Calls Try.prog 17 #[.string s, .int .i64 n] w fun e w' => e = .returned (.string ⟨(reps n c).toArray⟩) ∧ Below w.heap.size w w' := by
  subst hs
  have h := Try.strings_Repeat ⟨#[c]⟩ n w (by omega) (by show 1 * n ≤ _; omega)
  have e : Lib.repeatL (⟨#[c]⟩ : ByteArray).data.toList n = reps n c := rep_one c n
  rw [e] at h
  exact h

end Go.Proofs.Ytijhfmjkiijhiaa
