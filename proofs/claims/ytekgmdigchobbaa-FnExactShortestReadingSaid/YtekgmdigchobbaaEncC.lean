/-
  EncodeMessage and TimeOfMessage, the model's, and both together. Used by the claims on chapter 2.
-/
import Derived.Test.YtekgmdigchobbaaEncB
namespace Go.Proofs.Ytekgmdigchobbaa
open Go.RowKit
set_option linter.unusedVariables false

/-! ### TimeOfMessage -/
def timeMR (xs : List ByteArray) (m : ByteArray) : Int × Bool := if validM xs m = true then (((tmGo false (encL (xs.map bl) (bl m)) : Nat) : Int), true) else (0, false)
theorem enc_sig {xs : List ByteArray} {m : ByteArray} (h : validM xs m = true) : (pieces (bl (ba (encL (xs.map bl) (bl m))))).isSome = true ∧ (ba (encL (xs.map bl) (bl m))).size ≤ 71 := by
  obtain ⟨h1, h2⟩ := validM_iff.1 h
  have h3 : tableL (xs.map bl) = true := h1
  have h4 : msgL (xs.map bl).length (bl m) = true := by rw [List.length_map]; exact h2
  rw [bl_ba, pieces_enc h3 h4, ba_size]
  exact ⟨rfl, enc_len h3 h4⟩

end Go.Proofs.Ytekgmdigchobbaa
